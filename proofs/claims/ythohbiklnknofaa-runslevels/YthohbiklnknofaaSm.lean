/- Isolating run sequences: plain mathematics. -/
import Derived.Test.YthohbiklnknofaaExp
import Derived.Test.YthohbiklnknofaaSl
namespace Go.Proofs.Ythohbiklnknofaa.Rn
set_option linter.unusedVariables false
open Ex (lev LV rm Formed)
/-- Within an isolate. -/
theorem in_at (s : Ex.St) {c : List Int} {i : Nat} (h : Iso.st (c.getD i 0) = true) {o : Bool} (ho : Ex.wo (c.getD i 0) (c.drop (i + 1)) = o) : ∀ m, i + 1 + m ≤ Iso.partner c i → ∃ d, (Iso.stk c (i + 1 + m)).length = (Iso.stk c i).length + 1 + d ∧ Ex.In (Ex.at' s c i) ⟨Ex.nl (Ex.hd (Ex.at' s c i).st).lv o, 0, true⟩ (Ex.can (Ex.at' s c i) o) (Ex.at' s c (i + 1 + m)) d := by
  have hbeg : Ex.at' s c (i + 1) = Ex.iso (Ex.at' s c i) o := by rw [Ex.at_succ, Ex.step, if_pos h, ho]
  intro m
  induction m with
  | zero => intro _; exact ⟨0, by rw [Nat.add_zero, Iso.stk_init c i h]; simp, by rw [Nat.add_zero, hbeg]; exact Ex.In.begin _ _⟩
  | succ m ih =>
    intro hm
    obtain ⟨d, h1, h2⟩ := ih (by omega)
    obtain ⟨l', g1, _⟩ := Iso.stk_mid h (j := i + 1 + (m + 1)) (by omega) hm
    have g2 : (Iso.stk c (i + 1 + (m + 1))).length ≥ (Iso.stk c i).length + 1 := by rw [g1]; simp
    have hnx := Iso.stk_nx c (i + 1 + m)
    rw [show i + 1 + (m + 1) = i + 1 + m + 1 from by omega] at g2 ⊢
    rw [Ex.at_succ]
    rw [h1] at hnx
    by_cases hs : Iso.st (c.getD (i + 1 + m) 0) = true
    · refine ⟨d + 1, ?_, ?_⟩
      · rw [hnx, Iso.nx, if_pos hs]; omega
      · rw [Ex.step, if_pos hs]; exact h2.iso _
    · rw [Ex.step, if_neg hs]
      by_cases hx : c.getD (i + 1 + m) 0 = 23
      · rw [Iso.nx, if_neg hs, if_pos hx] at hnx
        obtain ⟨d', rfl⟩ : ∃ d', d = d' + 1 := ⟨d - 1, by omega⟩
        refine ⟨d', by omega, ?_⟩
        rw [hx]
        exact h2.pdi
      · rw [Iso.nx, if_neg hs, if_neg hx] at hnx
        exact ⟨d, by omega, h2.mid rfl _ hx⟩
theorem chain_ge {b : Int} {e0 : Ex.Ent} {T : List Ex.Ent} : ∀ E : List Ex.Ent, Ex.Chain b (E ++ e0 :: T) → e0.lv ≤ (Ex.hd (E ++ e0 :: T)).lv := by
  intro E
  induction E with
  | nil => intro _; exact Int.le_refl _
  | cons e r ih =>
    intro h
    cases hE : r ++ e0 :: T with
    | nil => simp at hE
    | cons x y =>
      rw [List.cons_append, hE] at h
      cases h with
      | cons _ _ h1 h2 _ _ _ =>
        have := ih (by rw [hE]; exact h1)
        rw [hE] at this
        rw [List.cons_append]
        simp only [Ex.hd] at *
        omega
theorem lev_st {b : Int} {s : Ex.St} {c : List Int} {i : Nat} (h : Iso.st (c.getD i 0) = true) : lev b s c i = (Ex.hd (Ex.at' s c i).st).lv := by
  obtain ⟨k1, k2, _⟩ := Ex.st_kept h
  unfold Ex.lev
  rw [Ex.mid_st h, (Ex.tl_kept k1 k2).1]
/-- What lies in an isolate has its initiator's level, or a greater one. -/
theorem inside {b : Int} {c : List Int} (hF : Formed c) {i : Nat} (h : Iso.st (c.getD i 0) = true) (hn : Iso.partner c i < c.length) :
    (∀ k, i < k → k < Iso.partner c i → rm (c.getD k 0) = false → lev b (Ex.s0 b) c k = lev b (Ex.s0 b) c i) ∨ (∀ k, i < k → k < Iso.partner c i → rm (c.getD k 0) = false → lev b (Ex.s0 b) c i < lev b (Ex.s0 b) c k) := by
  obtain ⟨o, ho⟩ : ∃ o, Ex.wo (c.getD i 0) (c.drop (i + 1)) = o := ⟨_, rfl⟩
  have key : ∀ k, i < k → k < Iso.partner c i → rm (c.getD k 0) = false → lev b (Ex.s0 b) c k = (Ex.hd (Ex.mid (Ex.at' (Ex.s0 b) c k) (c.getD k 0)).st).lv ∧ ∃ d, Ex.In (Ex.at' (Ex.s0 b) c i) ⟨Ex.nl (Ex.hd (Ex.at' (Ex.s0 b) c i).st).lv o, 0, true⟩ (Ex.can (Ex.at' (Ex.s0 b) c i) o) (Ex.mid (Ex.at' (Ex.s0 b) c k) (c.getD k 0)) d := by
    intro k h1 h2 h3
    have hx : ¬ c.getD k 0 = 11 := fun e => by have := (hF k (by omega)).2.2 e; omega
    refine ⟨by unfold Ex.lev; rw [(Ex.tl_kept h3 hx).1], ?_⟩
    obtain ⟨m, rfl⟩ : ∃ m, k = i + 1 + m := ⟨k - (i + 1), by omega⟩
    obtain ⟨d, g1, g2⟩ := in_at (Ex.s0 b) h ho m (by omega)
    by_cases hp : c.getD (i + 1 + m) 0 = 23
    · obtain ⟨l', q1, _⟩ := Iso.stk_mid h (j := i + 1 + m + 1) (by omega) (by omega)
      have q2 : (Iso.stk c (i + 1 + m + 1)).length ≥ (Iso.stk c i).length + 1 := by rw [q1]; simp
      have hnx := Iso.stk_nx c (i + 1 + m)
      rw [hp, Iso.nx, if_neg (by decide), if_pos rfl] at hnx
      obtain ⟨d', rfl⟩ : ∃ d', d = d' + 1 := ⟨d - 1, by omega⟩
      refine ⟨d', ?_⟩
      rw [hp]
      exact g2.pdi
    · exact ⟨d, g2.mid rfl _ hp⟩
  have hi := lev_st (b := b) (s := Ex.s0 b) h
  cases hv : Ex.can (Ex.at' (Ex.s0 b) c i) o with
  | true =>
    refine .inr fun k h1 h2 h3 => ?_
    obtain ⟨e1, d, e2⟩ := key k h1 h2 h3
    rw [hv] at e2
    rcases e2 with ⟨_, E, q1, _, _⟩ | ⟨q, _⟩
    · have hok := (Ex.Ok.at (b := b) c k).mid (c.getD k 0)
      have hch := hok.ch
      rw [e1, hi]
      rw [q1] at hch ⊢
      have := chain_ge E hch
      have h4 := (Ex.nl_gt (Ex.hd (Ex.at' (Ex.s0 b) c i).st).lv o).1
      simp only at this
      omega
    · cases q
  | false =>
    refine .inl fun k h1 h2 h3 => ?_
    obtain ⟨e1, d, e2⟩ := key k h1 h2 h3
    rw [hv] at e2
    rcases e2 with ⟨q, _⟩ | ⟨_, q⟩
    · cases q
    · rw [e1, hi, q]
theorem lev_keep {b : Int} (hb : b = 0 ∨ b = 1) {c : List Int} {k : Nat} (h : rm (c.getD k 0) = false) : b ≤ lev b (Ex.s0 b) c k := by
  have hok := (Ex.Ok.at (b := b) c k).mid (c.getD k 0)
  have h1 := hok.ch.lo
  unfold Ex.lev Ex.tl
  rw [if_neg (by rw [h]; decide)]
  split
  · exact Int.le_refl _
  · exact h1
theorem lev_gone {b : Int} {c : List Int} {k : Nat} (h : rm (c.getD k 0) = true) : lev b (Ex.s0 b) c k = -1 := by
  unfold Ex.lev Ex.tl
  rw [if_pos h]
theorem kp_rm {b : Int} (hb : b = 0 ∨ b = 1) {c : List Int} {k : Nat} (hk : k < c.length) : kp (LV b c) k = !(rm (c.getD k 0)) := by
  unfold kp
  rw [Ex.LV_at b c k hk]
  cases h : rm (c.getD k 0) with
  | true => rw [lev_gone h]; rfl
  | false => have := lev_keep hb h; simp; omega
section
variable {lv : List Int} {rs : List (List Nat)}
theorem run_lt (h : Runs lv rs) {j : Nat} (hj : j < rs.length) : ∀ m' m, m < m' → m' < (rn rs j).length → (rn rs j).getD m 0 < (rn rs j).getD m' 0 := by
  intro m'
  induction m' with
  | zero => intro m hm; omega
  | succ m' ih =>
    intro m hm hl
    have h1 := (h.inner j m' hj hl).1
    by_cases hmm : m = m'
    · subst hmm; exact h1
    · have := ih m (by omega) (by omega); omega
theorem run_le (h : Runs lv rs) {j m : Nat} (hj : j < rs.length) (hm : m < (rn rs j).length) : fst rs j ≤ (rn rs j).getD m 0 ∧ (rn rs j).getD m 0 ≤ lst rs j := by
  constructor
  · by_cases h0 : m = 0
    · subst h0; exact Nat.le_refl _
    · exact Nat.le_of_lt (run_lt h hj m 0 (by omega) hm)
  · by_cases h0 : m = (rn rs j).length - 1
    · subst h0; exact Nat.le_refl _
    · exact Nat.le_of_lt (run_lt h hj ((rn rs j).length - 1) m (by omega) (by omega))
theorem lst_fst (h : Runs lv rs) : ∀ j i, i < j → j < rs.length → lst rs i < fst rs j := by
  intro j
  induction j with
  | zero => intro i hi; omega
  | succ j ih =>
    intro i hi hj
    have h1 := (h.outer j hj).1.1
    by_cases hij : i = j
    · subst hij; exact h1
    · have h2 := ih i (by omega) (by omega)
      have h3 := (run_le h (show j < rs.length by omega) (h.pos j (by omega))).2
      have e : (rn rs j).getD 0 0 = fst rs j := rfl
      omega
theorem loc_unique (h : Runs lv rs) {j j' m m' : Nat} (hj : j < rs.length) (hj' : j' < rs.length) (hm : m < (rn rs j).length) (hm' : m' < (rn rs j').length) (he : (rn rs j).getD m 0 = (rn rs j').getD m' 0) : j = j' ∧ m = m' := by
  have h1 := run_le h hj hm
  have h2 := run_le h hj' hm'
  by_cases q : j = j'
  · subst q
    refine ⟨rfl, ?_⟩
    by_cases q2 : m < m'
    · have := run_lt h hj m' m q2 hm'; omega
    · by_cases q3 : m' < m
      · have := run_lt h hj m m' q3 hm; omega
      · omega
  · by_cases q2 : j < j'
    · have := lst_fst h j' j q2 hj'; omega
    · have := lst_fst h j j' (by omega) hj; omega
theorem fi_found (h : Runs lv rs) {j : Nat} (hj : j < rs.length) : fi rs rs.length (fst rs j : Int) = some j := by
  cases hf : fi rs rs.length (fst rs j : Int) with
  | none => exact absurd rfl (fi_none hf j hj)
  | some i =>
    obtain ⟨h1, h2⟩ := fi_some hf
    have := (loc_unique h h1 hj (h.pos i h1) (h.pos j hj) (by have e : (rn rs i).getD 0 0 = fst rs i := rfl; have e' : (rn rs j).getD 0 0 = fst rs j := rfl; omega)).1
    rw [this]
theorem lst_kept (h : Runs lv rs) {j : Nat} (hj : j < rs.length) : lst rs j < lv.length ∧ kp lv (lst rs j) = true ∧ lv.getD (lst rs j) 0 = lv.getD (fst rs j) 0 := h.kept j ((rn rs j).length - 1) hj (by have := h.pos j hj; omega)
theorem fst_kept (h : Runs lv rs) {j : Nat} (hj : j < rs.length) : fst rs j < lv.length ∧ kp lv (fst rs j) = true := ⟨(h.kept j 0 hj (h.pos j hj)).1, (h.kept j 0 hj (h.pos j hj)).2.1⟩
end
section
variable {b : Int} {c : List Int}
/-- Where a run ends with an initiator that has a PDI, another one begins with this PDI. -/
theorem pdi_begins (hb : b = 0 ∨ b = 1) (hF : Formed c) {k : Nat} (hk : k < (RS (LV b c)).length) (hs : Iso.st (c.getD (lst (RS (LV b c)) k) 0) = true) (hp : Iso.partner c (lst (RS (LV b c)) k) < c.length) :
    ∃ j, j < (RS (LV b c)).length ∧ fst (RS (LV b c)) j = Iso.partner c (lst (RS (LV b c)) k) ∧ k < j := by
  have hR := runs_of (LV b c)
  have hlen := Ex.LV_len b c
  generalize RS (LV b c) = rs at *
  obtain ⟨l, hl⟩ : ∃ l, lst rs k = l := ⟨_, rfl⟩
  rw [hl] at hs hp ⊢
  have hlk := lst_kept hR hk
  rw [hl, hlen] at hlk
  have hgt := Iso.partner_gt c l
  obtain ⟨p1, _, _⟩ := Iso.partner_pdi hs hp
  have hpk : kp (LV b c) (Iso.partner c l) = true := by rw [kp_rm hb hp, p1]; rfl
  obtain ⟨hlp, _⟩ := Ex.lev_pair b (Ex.s0 b) hs hp
  have hins := inside (b := b) hF hs hp
  generalize Iso.partner c l = p at *
  obtain ⟨j, m, hj, hm, he⟩ := hR.cover p (by omega) hpk
  by_cases hm0 : m = 0
  · subst hm0
    have e : fst rs j = p := he
    refine ⟨j, hj, e, ?_⟩
    by_cases q : k < j
    · exact q
    · by_cases q2 : j = k
      · subst q2
        have := (run_le hR hj (hR.pos j hj)).2
        have e' : (rn rs j).getD 0 0 = fst rs j := rfl
        omega
      · have h1 := lst_fst hR k j (by omega) hk
        have h2 := (run_le hR hj (hR.pos j hj)).2
        have h3 := (run_le hR hk (hR.pos k hk)).2
        have e' : (rn rs j).getD 0 0 = fst rs j := rfl
        have e2 : (rn rs k).getD 0 0 = fst rs k := rfl
        omega
  · exfalso
    obtain ⟨m', rfl⟩ : ∃ m', m = m' + 1 := ⟨m - 1, by omega⟩
    have hadj := hR.inner j m' hj hm
    obtain ⟨q, hq⟩ : ∃ q, (rn rs j).getD m' 0 = q := ⟨_, rfl⟩
    rw [hq, he] at hadj
    have hqk := hR.kept j m' hj (by omega)
    have hpk2 := hR.kept j (m' + 1) hj hm
    rw [hq, hlen] at hqk
    rw [he] at hpk2
    have hlq : l ≤ q := by
      by_cases h1 : l ≤ q
      · exact h1
      · have := hadj.2 l (by omega) (by omega)
        rw [hlk.2.1] at this
        cases this
    by_cases hlq2 : l = q
    · obtain ⟨e1, e2⟩ := loc_unique hR hj hk (show m' < (rn rs j).length by omega) (show (rn rs k).length - 1 < (rn rs k).length by have := hR.pos k hk; omega) (by rw [hq, ← hlq2, ← hl]; rfl)
      subst e1
      omega
    · have hq1 : l < q := by omega
      have hq2 : q < p := hadj.1
      have hrq : rm (c.getD q 0) = false := by have := hqk.2.1; rw [kp_rm hb hqk.1] at this; simpa using this
      have e3 : lev b (Ex.s0 b) c q = lev b (Ex.s0 b) c l := by
        have h1 := hqk.2.2
        have h2 := hpk2.2.2
        rw [Ex.LV_at b c q hqk.1] at h1
        rw [Ex.LV_at b c p hp] at h2
        rw [h1, ← h2, hlp]
      have hkN : k + 1 < rs.length := by
        by_cases h1 : k + 1 < rs.length
        · exact h1
        · have := hR.after (by omega) q (by rw [show rs.length - 1 = k from by omega, hl]; exact hq1) (by omega)
          rw [hqk.2.1] at this
          cases this
      obtain ⟨⟨a1, a2⟩, a3⟩ := hR.outer k hkN
      rw [hl] at a1 a2
      have hf := fst_kept hR hkN
      rw [hlen] at hf
      have hfq : fst rs (k + 1) ≤ q := by
        by_cases h1 : fst rs (k + 1) ≤ q
        · exact h1
        · have := a2 q hq1 (by omega)
          rw [hqk.2.1] at this
          cases this
      have hrf : rm (c.getD (fst rs (k + 1)) 0) = false := by have := hf.2; rw [kp_rm hb hf.1] at this; simpa using this
      rcases hins with hI | hI
      · have := hI (fst rs (k + 1)) a1 (by omega) hrf
        have h3 := hlk.2.2
        rw [Ex.LV_at b c l hlk.1] at h3
        rw [Ex.LV_at b c _ hf.1, this, ← h3] at a3
        exact a3 rfl
      · have := hI q hq1 hq2 hrq
        omega
/-- An initiator whose PDI begins a run ends one. -/
theorem init_ends (hb : b = 0 ∨ b = 1) (hF : Formed c) {k i : Nat} (hk : k < (RS (LV b c)).length) (hs : Iso.st (c.getD i 0) = true) (hp : Iso.partner c i = fst (RS (LV b c)) k) :
    ∃ j, j < k ∧ lst (RS (LV b c)) j = i := by
  have hR := runs_of (LV b c)
  have hlen := Ex.LV_len b c
  generalize RS (LV b c) = rs at *
  have hfk := fst_kept hR hk
  rw [hlen] at hfk
  have hpl : Iso.partner c i < c.length := by rw [hp]; exact hfk.1
  have hgt := Iso.partner_gt c i
  have hik : kp (LV b c) i = true := by rw [kp_rm hb (by omega), (Ex.st_kept hs).1]; rfl
  obtain ⟨hlp, _⟩ := Ex.lev_pair b (Ex.s0 b) hs hpl
  have hins := inside (b := b) hF hs hpl
  rw [hp] at hgt hlp hins hpl
  obtain ⟨j, m, hj, hm, he⟩ := hR.cover i (by omega) hik
  have hjk : j < k := by
    have h1 := run_le hR hj hm
    by_cases q : j < k
    · exact q
    · by_cases q2 : j = k
      · subst q2; omega
      · have h2 := lst_fst hR j k (by omega) hj
        have h3 := (run_le hR hk (hR.pos k hk)).2
        have e' : (rn rs k).getD 0 0 = fst rs k := rfl
        omega
  refine ⟨j, hjk, ?_⟩
  by_cases hml : m + 1 = (rn rs j).length
  · unfold lst
    rw [show (rn rs j).length - 1 = m from by omega]
    exact he
  · exfalso
    have hm1 : m + 1 < (rn rs j).length := by omega
    have hadj := hR.inner j m hj hm1
    obtain ⟨q, hq⟩ : ∃ q, (rn rs j).getD (m + 1) 0 = q := ⟨_, rfl⟩
    rw [hq, he] at hadj
    have hqk := hR.kept j (m + 1) hj hm1
    have hik2 := hR.kept j m hj hm
    rw [hq, hlen] at hqk
    rw [he] at hik2
    have hqf : q ≤ fst rs k := by
      by_cases h1 : q ≤ fst rs k
      · exact h1
      · have := hadj.2 (fst rs k) hgt (by omega)
        rw [hfk.2] at this
        cases this
    by_cases hqf2 : q = fst rs k
    · obtain ⟨e1, e2⟩ := loc_unique hR hj hk hm1 (hR.pos k hk) (by rw [hq, hqf2]; rfl)
      omega
    · have hq2 : q < fst rs k := by omega
      have hrq : rm (c.getD q 0) = false := by have := hqk.2.1; rw [kp_rm hb hqk.1] at this; simpa using this
      have e3 : lev b (Ex.s0 b) c q = lev b (Ex.s0 b) c i := by
        have h1 := hqk.2.2
        have h2 := hik2.2.2
        rw [Ex.LV_at b c q hqk.1] at h1
        rw [Ex.LV_at b c i (by omega)] at h2
        rw [h1, ← h2]
      obtain ⟨k', rfl⟩ : ∃ k', k = k' + 1 := ⟨k - 1, by omega⟩
      obtain ⟨⟨a1, a2⟩, a3⟩ := hR.outer k' hk
      have hl := lst_kept hR (show k' < rs.length by omega)
      rw [hlen] at hl
      have hlq : q ≤ lst rs k' := by
        by_cases h1 : q ≤ lst rs k'
        · exact h1
        · have := a2 q (by omega) hq2
          rw [hqk.2.1] at this
          cases this
      have hrl : rm (c.getD (lst rs k') 0) = false := by have := hl.2.1; rw [kp_rm hb hl.1] at this; simpa using this
      have hiq := hadj.1
      rcases hins with hI | hI
      · have := hI (lst rs k') (by omega) a1 hrl
        have h3 := hl.2.2
        rw [Ex.LV_at b c _ hl.1] at h3
        rw [← h3, Ex.LV_at b c _ hfk.1, this, hlp] at a3
        exact a3 rfl
      · have := hI q hiq hq2 hrq
        omega
theorem mt_st {i : Nat} (h : Iso.st (c.getD i 0) = true) : Iso.mt c i = (Iso.partner c i : Int) := by unfold Iso.mt; rw [if_pos h]
/-- Does a run end with an initiator? -/
theorem en_iff {rs : List (List Nat)} {k : Nat} (hk : lst rs k < c.length) : en (Iso.MT c) rs k = Iso.st (c.getD (lst rs k) 0) := by
  unfold en
  rw [Iso.MT_at c _ hk]
  cases h : Iso.st (c.getD (lst rs k) 0) with
  | true => rw [mt_st h]; have := Iso.partner_gt c (lst rs k); simp; omega
  | false =>
    unfold Iso.mt
    rw [if_neg (by rw [h]; decide)]
    have h2 := Iso.hd_range c (lst rs k)
    split
    · simp; omega
    · simp
theorem fo_some (hb : b = 0 ∨ b = 1) (hF : Formed c) {k j : Nat} (hk : k < (RS (LV b c)).length) (h : fo (Iso.MT c) (RS (LV b c)) k = some j) :
    k < j ∧ j < (RS (LV b c)).length ∧ Iso.st (c.getD (lst (RS (LV b c)) k) 0) = true ∧ Iso.partner c (lst (RS (LV b c)) k) = fst (RS (LV b c)) j ∧ Iso.partner c (lst (RS (LV b c)) k) < c.length := by
  have hR := runs_of (LV b c)
  have hlk := lst_kept hR hk
  rw [Ex.LV_len] at hlk
  unfold fo at h
  rw [en_iff hlk.1] at h
  split at h
  · rename_i hs
    obtain ⟨h1, h2⟩ := fi_some h
    rw [Iso.MT_at c _ hlk.1, mt_st hs] at h2
    have hf := fst_kept hR h1
    rw [Ex.LV_len] at hf
    have hp : Iso.partner c (lst (RS (LV b c)) k) < c.length := by omega
    obtain ⟨j', h3, h4, h5⟩ := pdi_begins hb hF hk hs hp
    have := (loc_unique hR h1 h3 (hR.pos j h1) (hR.pos j' h3) (by have e : (rn (RS (LV b c)) j).getD 0 0 = fst (RS (LV b c)) j := rfl; have e' : (rn (RS (LV b c)) j').getD 0 0 = fst (RS (LV b c)) j' := rfl; omega)).1
    subst this
    exact ⟨h5, h1, hs, by omega, hp⟩
  · cases h
theorem fo_none (hb : b = 0 ∨ b = 1) (hF : Formed c) {k : Nat} (hk : k < (RS (LV b c)).length) (h : fo (Iso.MT c) (RS (LV b c)) k = none) (hs : Iso.st (c.getD (lst (RS (LV b c)) k) 0) = true) : Iso.partner c (lst (RS (LV b c)) k) = c.length := by
  have hR := runs_of (LV b c)
  have hlk := lst_kept hR hk
  rw [Ex.LV_len] at hlk
  have hle := Iso.partner_le c _ hlk.1
  by_cases hp : Iso.partner c (lst (RS (LV b c)) k) < c.length
  · exfalso
    obtain ⟨j, h3, h4, h5⟩ := pdi_begins hb hF hk hs hp
    unfold fo at h
    rw [en_iff hlk.1, if_pos hs, Iso.MT_at c _ hlk.1, mt_st hs, ← h4, fi_found hR h3] at h
    cases h
  · omega
/-- A run begins a sequence, if its first place is no PDI that an initiator has. -/
theorem bg_iff {rs : List (List Nat)} {k : Nat} (hk : fst rs k < c.length) : bg (Iso.MT c) rs k = false ↔ ∃ i, i < fst rs k ∧ Iso.st (c.getD i 0) = true ∧ Iso.partner c i = fst rs k := by
  unfold bg
  rw [Iso.MT_at c _ hk]
  constructor
  · intro h
    simp only [Bool.or_eq_false_iff, decide_eq_false_iff_not] at h
    obtain ⟨h1, h2⟩ := h
    by_cases hs : Iso.st (c.getD (fst rs k) 0) = true
    · rw [mt_st hs] at h2
      have := Iso.partner_gt c (fst rs k)
      omega
    · by_cases hx : c.getD (fst rs k) 0 = 23
      · rcases Iso.mt_pdi hk hx with ⟨q, _⟩ | ⟨i, q1, q2, q3, q4⟩
        · omega
        · rw [mt_st q3] at q4
          exact ⟨i, q2, q3, by omega⟩
      · unfold Iso.mt at h2
        rw [if_neg hs, if_neg hx] at h2
        omega
  · rintro ⟨i, h1, h2, h3⟩
    have := Iso.mt_pair h2 (by rw [h3]; exact hk)
    rw [h3] at this
    rw [this]
    simp
    omega
theorem bg_pred (hb : b = 0 ∨ b = 1) (hF : Formed c) {k : Nat} (hk : k < (RS (LV b c)).length) (h : bg (Iso.MT c) (RS (LV b c)) k = false) : ∃ j, j < k ∧ fo (Iso.MT c) (RS (LV b c)) j = some k := by
  have hR := runs_of (LV b c)
  have hf := fst_kept hR hk
  rw [Ex.LV_len] at hf
  obtain ⟨i, h1, h2, h3⟩ := (bg_iff hf.1).1 h
  obtain ⟨j, h4, h5⟩ := init_ends hb hF hk h2 h3
  refine ⟨j, h4, ?_⟩
  unfold fo
  have hl : lst (RS (LV b c)) j < c.length := by rw [h5]; omega
  rw [en_iff hl, h5, if_pos h2, Iso.MT_at c i (by omega), mt_st h2, h3]
  exact fi_found hR hk
theorem fo_not_bg (hb : b = 0 ∨ b = 1) (hF : Formed c) {k j : Nat} (hk : k < (RS (LV b c)).length) (h : fo (Iso.MT c) (RS (LV b c)) k = some j) : bg (Iso.MT c) (RS (LV b c)) j = false := by
  obtain ⟨h1, h2, h3, h4, h5⟩ := fo_some hb hF hk h
  have hg := Iso.partner_gt c (lst (RS (LV b c)) k)
  exact (bg_iff (by omega)).2 ⟨_, by omega, h3, h4⟩
theorem fo_inj (hb : b = 0 ∨ b = 1) (hF : Formed c) {k k' j : Nat} (hk : k < (RS (LV b c)).length) (hk' : k' < (RS (LV b c)).length) (h : fo (Iso.MT c) (RS (LV b c)) k = some j) (h' : fo (Iso.MT c) (RS (LV b c)) k' = some j) : k = k' := by
  have hR := runs_of (LV b c)
  obtain ⟨h1, h2, h3, h4, h5⟩ := fo_some hb hF hk h
  obtain ⟨g1, g2, g3, g4, g5⟩ := fo_some hb hF hk' h'
  have e1 := Iso.mt_pair h3 h5
  have e2 := Iso.mt_pair g3 g5
  rw [h4] at e1
  rw [g4, e1] at e2
  have e3 : lst (RS (LV b c)) k = lst (RS (LV b c)) k' := by omega
  exact (loc_unique hR hk hk' (show (rn (RS (LV b c)) k).length - 1 < _ by have := hR.pos k hk; omega) (show (rn (RS (LV b c)) k').length - 1 < _ by have := hR.pos k' hk'; omega) e3).1
theorem fo_lvl (hb : b = 0 ∨ b = 1) (hF : Formed c) {k j : Nat} (hk : k < (RS (LV b c)).length) (h : fo (Iso.MT c) (RS (LV b c)) k = some j) : lvl (LV b c) (RS (LV b c)) j = lvl (LV b c) (RS (LV b c)) k := by
  have hR := runs_of (LV b c)
  obtain ⟨h1, h2, h3, h4, h5⟩ := fo_some hb hF hk h
  have hlk := lst_kept hR hk
  obtain ⟨hlp, _⟩ := Ex.lev_pair b (Ex.s0 b) h3 h5
  unfold lvl
  rw [← hlk.2.2]
  rw [Ex.LV_len] at hlk
  rw [← h4, Ex.LV_at b c _ h5, Ex.LV_at b c _ hlk.1, hlp]
end
end Go.Proofs.Ythohbiklnknofaa.Rn
