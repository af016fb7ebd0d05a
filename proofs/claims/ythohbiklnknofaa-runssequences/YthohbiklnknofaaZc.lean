import Derived.Test.YthohbiklnknofaaExp
import Derived.Test.YthohbiklnknofaaZb
import Derived.Test.YthohbiklnknofaaLl
import Derived.Test.YthohbiklnknofaaPg
import Derived.Test.YthohbiklnknofaaRefp6
/- Isolating run sequences: plain mathematics. -/
namespace Go.Proofs.Ythohbiklnknofaa.Rn
set_option linter.unusedVariables false
open Ex (lev LV rm Formed)
/-- Within an isolate. -/
theorem in_at (s : Ex.St) {c : List Int} {i : Nat} (h : Iso.st (c.getD i 0) = true) {o : Bool} (ho : Ex.wo (c.getD i 0) (c.drop (i + 1)) = o) : ∀ m, i + 1 + m ≤ Iso.partner c i → ∃ d, (Iso.stk c (i + 1 + m)).length = (Iso.stk c i).length + 1 + d ∧ Ex.In (Ex.at' s c i) ⟨Ex.nl (Ex.hd (Ex.at' s c i).st).lv o, 0, true⟩ (Ex.can (Ex.at' s c i) o) (Ex.at' s c (i + 1 + m)) d := by
  have hbeg : Ex.at' s c (i + 1) = Ex.iso (Ex.at' s c i) o := by rw [Ex.at_succ, Ex.step, if_pos h, ho]
  intro m
  induction m with
  | zero => intro _; exact ⟨0, by rw [Nat.add_zero, Iso.stk_init c i h]; simp, by rw [Nat.add_zero, hbeg]; exact Ex.In.begin _ _⟩
  | succ m ih =>
    intro hm
    obtain ⟨d, h1, h2⟩ := ih (by omega)
    obtain ⟨l', g1, _⟩ := Iso.stk_mid h (j := i + 1 + (m + 1)) (by omega) hm
    have g2 : (Iso.stk c (i + 1 + (m + 1))).length ≥ (Iso.stk c i).length + 1 := by rw [g1]; simp
    have hnx := Iso.stk_nx c (i + 1 + m)
    rw [show i + 1 + (m + 1) = i + 1 + m + 1 from by omega] at g2 ⊢
    rw [Ex.at_succ]
    rw [h1] at hnx
    by_cases hs : Iso.st (c.getD (i + 1 + m) 0) = true
    · refine ⟨d + 1, ?_, ?_⟩
      · rw [hnx, Iso.nx, if_pos hs]; omega
      · rw [Ex.step, if_pos hs]; exact h2.iso _
    · rw [Ex.step, if_neg hs]
      by_cases hx : c.getD (i + 1 + m) 0 = 23
      · rw [Iso.nx, if_neg hs, if_pos hx] at hnx
        obtain ⟨d', rfl⟩ : ∃ d', d = d' + 1 := ⟨d - 1, by omega⟩
        refine ⟨d', by omega, ?_⟩
        rw [hx]
        exact h2.pdi
      · rw [Iso.nx, if_neg hs, if_neg hx] at hnx
        exact ⟨d, by omega, h2.mid rfl _ hx⟩
theorem chain_ge {b : Int} {e0 : Ex.Ent} {T : List Ex.Ent} : ∀ E : List Ex.Ent, Ex.Chain b (E ++ e0 :: T) → e0.lv ≤ (Ex.hd (E ++ e0 :: T)).lv := by
  intro E
  induction E with
  | nil => intro _; exact Int.le_refl _
  | cons e r ih =>
    intro h
    cases hE : r ++ e0 :: T with
    | nil => simp at hE
    | cons x y =>
      rw [List.cons_append, hE] at h
      cases h with
      | cons _ _ h1 h2 _ _ _ =>
        have := ih (by rw [hE]; exact h1)
        rw [hE] at this
        rw [List.cons_append]
        simp only [Ex.hd] at *
        omega
theorem lev_st {b : Int} {s : Ex.St} {c : List Int} {i : Nat} (h : Iso.st (c.getD i 0) = true) : lev b s c i = (Ex.hd (Ex.at' s c i).st).lv := by
  obtain ⟨k1, k2, _⟩ := Ex.st_kept h
  unfold Ex.lev
  rw [Ex.mid_st h, (Ex.tl_kept k1 k2).1]
/-- What lies in an isolate has its initiator's level, or a greater one. -/
theorem inside {b : Int} {c : List Int} (hF : Formed c) {i : Nat} (h : Iso.st (c.getD i 0) = true) (hn : Iso.partner c i < c.length) :
    (∀ k, i < k → k < Iso.partner c i → rm (c.getD k 0) = false → lev b (Ex.s0 b) c k = lev b (Ex.s0 b) c i) ∨ (∀ k, i < k → k < Iso.partner c i → rm (c.getD k 0) = false → lev b (Ex.s0 b) c i < lev b (Ex.s0 b) c k) := by
  obtain ⟨o, ho⟩ : ∃ o, Ex.wo (c.getD i 0) (c.drop (i + 1)) = o := ⟨_, rfl⟩
  have key : ∀ k, i < k → k < Iso.partner c i → rm (c.getD k 0) = false → lev b (Ex.s0 b) c k = (Ex.hd (Ex.mid (Ex.at' (Ex.s0 b) c k) (c.getD k 0)).st).lv ∧ ∃ d, Ex.In (Ex.at' (Ex.s0 b) c i) ⟨Ex.nl (Ex.hd (Ex.at' (Ex.s0 b) c i).st).lv o, 0, true⟩ (Ex.can (Ex.at' (Ex.s0 b) c i) o) (Ex.mid (Ex.at' (Ex.s0 b) c k) (c.getD k 0)) d := by
    intro k h1 h2 h3
    have hx : ¬ c.getD k 0 = 11 := fun e => by have := (hF k (by omega)).2.2 e; omega
    refine ⟨by unfold Ex.lev; rw [(Ex.tl_kept h3 hx).1], ?_⟩
    obtain ⟨m, rfl⟩ : ∃ m, k = i + 1 + m := ⟨k - (i + 1), by omega⟩
    obtain ⟨d, g1, g2⟩ := in_at (Ex.s0 b) h ho m (by omega)
    by_cases hp : c.getD (i + 1 + m) 0 = 23
    · obtain ⟨l', q1, _⟩ := Iso.stk_mid h (j := i + 1 + m + 1) (by omega) (by omega)
      have q2 : (Iso.stk c (i + 1 + m + 1)).length ≥ (Iso.stk c i).length + 1 := by rw [q1]; simp
      have hnx := Iso.stk_nx c (i + 1 + m)
      rw [hp, Iso.nx, if_neg (by decide), if_pos rfl] at hnx
      obtain ⟨d', rfl⟩ : ∃ d', d = d' + 1 := ⟨d - 1, by omega⟩
      refine ⟨d', ?_⟩
      rw [hp]
      exact g2.pdi
    · exact ⟨d, g2.mid rfl _ hp⟩
  have hi := lev_st (b := b) (s := Ex.s0 b) h
  cases hv : Ex.can (Ex.at' (Ex.s0 b) c i) o with
  | true =>
    refine .inr fun k h1 h2 h3 => ?_
    obtain ⟨e1, d, e2⟩ := key k h1 h2 h3
    rw [hv] at e2
    rcases e2 with ⟨_, E, q1, _, _⟩ | ⟨q, _⟩
    · have hok := (Ex.Ok.at (b := b) c k).mid (c.getD k 0)
      have hch := hok.ch
      rw [e1, hi]
      rw [q1] at hch ⊢
      have := chain_ge E hch
      have h4 := (Ex.nl_gt (Ex.hd (Ex.at' (Ex.s0 b) c i).st).lv o).1
      simp only at this
      omega
    · cases q
  | false =>
    refine .inl fun k h1 h2 h3 => ?_
    obtain ⟨e1, d, e2⟩ := key k h1 h2 h3
    rw [hv] at e2
    rcases e2 with ⟨q, _⟩ | ⟨_, q⟩
    · cases q
    · rw [e1, hi, q]
theorem lev_keep {b : Int} (hb : b = 0 ∨ b = 1) {c : List Int} {k : Nat} (h : rm (c.getD k 0) = false) : b ≤ lev b (Ex.s0 b) c k := by
  have hok := (Ex.Ok.at (b := b) c k).mid (c.getD k 0)
  have h1 := hok.ch.lo
  unfold Ex.lev Ex.tl
  rw [if_neg (by rw [h]; decide)]
  split
  · exact Int.le_refl _
  · exact h1
theorem lev_gone {b : Int} {c : List Int} {k : Nat} (h : rm (c.getD k 0) = true) : lev b (Ex.s0 b) c k = -1 := by
  unfold Ex.lev Ex.tl
  rw [if_pos h]
theorem kp_rm {b : Int} (hb : b = 0 ∨ b = 1) {c : List Int} {k : Nat} (hk : k < c.length) : kp (LV b c) k = !(rm (c.getD k 0)) := by
  unfold kp
  rw [Ex.LV_at b c k hk]
  cases h : rm (c.getD k 0) with
  | true => rw [lev_gone h]; rfl
  | false => have := lev_keep hb h; simp; omega
section
variable {lv : List Int} {rs : List (List Nat)}
theorem run_lt (h : Runs lv rs) {j : Nat} (hj : j < rs.length) : ∀ m' m, m < m' → m' < (rn rs j).length → (rn rs j).getD m 0 < (rn rs j).getD m' 0 := by
  intro m'
  induction m' with
  | zero => intro m hm; omega
  | succ m' ih =>
    intro m hm hl
    have h1 := (h.inner j m' hj hl).1
    by_cases hmm : m = m'
    · subst hmm; exact h1
    · have := ih m (by omega) (by omega); omega
theorem run_le (h : Runs lv rs) {j m : Nat} (hj : j < rs.length) (hm : m < (rn rs j).length) : fst rs j ≤ (rn rs j).getD m 0 ∧ (rn rs j).getD m 0 ≤ lst rs j := by
  constructor
  · by_cases h0 : m = 0
    · subst h0; exact Nat.le_refl _
    · exact Nat.le_of_lt (run_lt h hj m 0 (by omega) hm)
  · by_cases h0 : m = (rn rs j).length - 1
    · subst h0; exact Nat.le_refl _
    · exact Nat.le_of_lt (run_lt h hj ((rn rs j).length - 1) m (by omega) (by omega))
theorem lst_fst (h : Runs lv rs) : ∀ j i, i < j → j < rs.length → lst rs i < fst rs j := by
  intro j
  induction j with
  | zero => intro i hi; omega
  | succ j ih =>
    intro i hi hj
    have h1 := (h.outer j hj).1.1
    by_cases hij : i = j
    · subst hij; exact h1
    · have h2 := ih i (by omega) (by omega)
      have h3 := (run_le h (show j < rs.length by omega) (h.pos j (by omega))).2
      have e : (rn rs j).getD 0 0 = fst rs j := rfl
      omega
theorem loc_unique (h : Runs lv rs) {j j' m m' : Nat} (hj : j < rs.length) (hj' : j' < rs.length) (hm : m < (rn rs j).length) (hm' : m' < (rn rs j').length) (he : (rn rs j).getD m 0 = (rn rs j').getD m' 0) : j = j' ∧ m = m' := by
  have h1 := run_le h hj hm
  have h2 := run_le h hj' hm'
  by_cases q : j = j'
  · subst q
    refine ⟨rfl, ?_⟩
    by_cases q2 : m < m'
    · have := run_lt h hj m' m q2 hm'; omega
    · by_cases q3 : m' < m
      · have := run_lt h hj m m' q3 hm; omega
      · omega
  · by_cases q2 : j < j'
    · have := lst_fst h j' j q2 hj'; omega
    · have := lst_fst h j j' (by omega) hj; omega
theorem fi_found (h : Runs lv rs) {j : Nat} (hj : j < rs.length) : fi rs rs.length (fst rs j : Int) = some j := by
  cases hf : fi rs rs.length (fst rs j : Int) with
  | none => exact absurd rfl (fi_none hf j hj)
  | some i =>
    obtain ⟨h1, h2⟩ := fi_some hf
    have := (loc_unique h h1 hj (h.pos i h1) (h.pos j hj) (by have e : (rn rs i).getD 0 0 = fst rs i := rfl; have e' : (rn rs j).getD 0 0 = fst rs j := rfl; omega)).1
    rw [this]
theorem lst_kept (h : Runs lv rs) {j : Nat} (hj : j < rs.length) : lst rs j < lv.length ∧ kp lv (lst rs j) = true ∧ lv.getD (lst rs j) 0 = lv.getD (fst rs j) 0 := h.kept j ((rn rs j).length - 1) hj (by have := h.pos j hj; omega)
theorem fst_kept (h : Runs lv rs) {j : Nat} (hj : j < rs.length) : fst rs j < lv.length ∧ kp lv (fst rs j) = true := ⟨(h.kept j 0 hj (h.pos j hj)).1, (h.kept j 0 hj (h.pos j hj)).2.1⟩
end
section
variable {b : Int} {c : List Int}
/-- Where a run ends with an initiator that has a PDI, another one begins with this PDI. -/
theorem pdi_begins (hb : b = 0 ∨ b = 1) (hF : Formed c) {k : Nat} (hk : k < (RS (LV b c)).length) (hs : Iso.st (c.getD (lst (RS (LV b c)) k) 0) = true) (hp : Iso.partner c (lst (RS (LV b c)) k) < c.length) :
    ∃ j, j < (RS (LV b c)).length ∧ fst (RS (LV b c)) j = Iso.partner c (lst (RS (LV b c)) k) ∧ k < j := by
  have hR := runs_of (LV b c)
  have hlen := Ex.LV_len b c
  generalize RS (LV b c) = rs at *
  obtain ⟨l, hl⟩ : ∃ l, lst rs k = l := ⟨_, rfl⟩
  rw [hl] at hs hp ⊢
  have hlk := lst_kept hR hk
  rw [hl, hlen] at hlk
  have hgt := Iso.partner_gt c l
  obtain ⟨p1, _, _⟩ := Iso.partner_pdi hs hp
  have hpk : kp (LV b c) (Iso.partner c l) = true := by rw [kp_rm hb hp, p1]; rfl
  obtain ⟨hlp, _⟩ := Ex.lev_pair b (Ex.s0 b) hs hp
  have hins := inside (b := b) hF hs hp
  generalize Iso.partner c l = p at *
  obtain ⟨j, m, hj, hm, he⟩ := hR.cover p (by omega) hpk
  by_cases hm0 : m = 0
  · subst hm0
    have e : fst rs j = p := he
    refine ⟨j, hj, e, ?_⟩
    by_cases q : k < j
    · exact q
    · by_cases q2 : j = k
      · subst q2
        have := (run_le hR hj (hR.pos j hj)).2
        have e' : (rn rs j).getD 0 0 = fst rs j := rfl
        omega
      · have h1 := lst_fst hR k j (by omega) hk
        have h2 := (run_le hR hj (hR.pos j hj)).2
        have h3 := (run_le hR hk (hR.pos k hk)).2
        have e' : (rn rs j).getD 0 0 = fst rs j := rfl
        have e2 : (rn rs k).getD 0 0 = fst rs k := rfl
        omega
  · exfalso
    obtain ⟨m', rfl⟩ : ∃ m', m = m' + 1 := ⟨m - 1, by omega⟩
    have hadj := hR.inner j m' hj hm
    obtain ⟨q, hq⟩ : ∃ q, (rn rs j).getD m' 0 = q := ⟨_, rfl⟩
    rw [hq, he] at hadj
    have hqk := hR.kept j m' hj (by omega)
    have hpk2 := hR.kept j (m' + 1) hj hm
    rw [hq, hlen] at hqk
    rw [he] at hpk2
    have hlq : l ≤ q := by
      by_cases h1 : l ≤ q
      · exact h1
      · have := hadj.2 l (by omega) (by omega)
        rw [hlk.2.1] at this
        cases this
    by_cases hlq2 : l = q
    · obtain ⟨e1, e2⟩ := loc_unique hR hj hk (show m' < (rn rs j).length by omega) (show (rn rs k).length - 1 < (rn rs k).length by have := hR.pos k hk; omega) (by rw [hq, ← hlq2, ← hl]; rfl)
      subst e1
      omega
    · have hq1 : l < q := by omega
      have hq2 : q < p := hadj.1
      have hrq : rm (c.getD q 0) = false := by have := hqk.2.1; rw [kp_rm hb hqk.1] at this; simpa using this
      have e3 : lev b (Ex.s0 b) c q = lev b (Ex.s0 b) c l := by
        have h1 := hqk.2.2
        have h2 := hpk2.2.2
        rw [Ex.LV_at b c q hqk.1] at h1
        rw [Ex.LV_at b c p hp] at h2
        rw [h1, ← h2, hlp]
      have hkN : k + 1 < rs.length := by
        by_cases h1 : k + 1 < rs.length
        · exact h1
        · have := hR.after (by omega) q (by rw [show rs.length - 1 = k from by omega, hl]; exact hq1) (by omega)
          rw [hqk.2.1] at this
          cases this
      obtain ⟨⟨a1, a2⟩, a3⟩ := hR.outer k hkN
      rw [hl] at a1 a2
      have hf := fst_kept hR hkN
      rw [hlen] at hf
      have hfq : fst rs (k + 1) ≤ q := by
        by_cases h1 : fst rs (k + 1) ≤ q
        · exact h1
        · have := a2 q hq1 (by omega)
          rw [hqk.2.1] at this
          cases this
      have hrf : rm (c.getD (fst rs (k + 1)) 0) = false := by have := hf.2; rw [kp_rm hb hf.1] at this; simpa using this
      rcases hins with hI | hI
      · have := hI (fst rs (k + 1)) a1 (by omega) hrf
        have h3 := hlk.2.2
        rw [Ex.LV_at b c l hlk.1] at h3
        rw [Ex.LV_at b c _ hf.1, this, ← h3] at a3
        exact a3 rfl
      · have := hI q hq1 hq2 hrq
        omega
/-- An initiator whose PDI begins a run ends one. -/
theorem init_ends (hb : b = 0 ∨ b = 1) (hF : Formed c) {k i : Nat} (hk : k < (RS (LV b c)).length) (hs : Iso.st (c.getD i 0) = true) (hp : Iso.partner c i = fst (RS (LV b c)) k) :
    ∃ j, j < k ∧ lst (RS (LV b c)) j = i := by
  have hR := runs_of (LV b c)
  have hlen := Ex.LV_len b c
  generalize RS (LV b c) = rs at *
  have hfk := fst_kept hR hk
  rw [hlen] at hfk
  have hpl : Iso.partner c i < c.length := by rw [hp]; exact hfk.1
  have hgt := Iso.partner_gt c i
  have hik : kp (LV b c) i = true := by rw [kp_rm hb (by omega), (Ex.st_kept hs).1]; rfl
  obtain ⟨hlp, _⟩ := Ex.lev_pair b (Ex.s0 b) hs hpl
  have hins := inside (b := b) hF hs hpl
  rw [hp] at hgt hlp hins hpl
  obtain ⟨j, m, hj, hm, he⟩ := hR.cover i (by omega) hik
  have hjk : j < k := by
    have h1 := run_le hR hj hm
    by_cases q : j < k
    · exact q
    · by_cases q2 : j = k
      · subst q2; omega
      · have h2 := lst_fst hR j k (by omega) hj
        have h3 := (run_le hR hk (hR.pos k hk)).2
        have e' : (rn rs k).getD 0 0 = fst rs k := rfl
        omega
  refine ⟨j, hjk, ?_⟩
  by_cases hml : m + 1 = (rn rs j).length
  · unfold lst
    rw [show (rn rs j).length - 1 = m from by omega]
    exact he
  · exfalso
    have hm1 : m + 1 < (rn rs j).length := by omega
    have hadj := hR.inner j m hj hm1
    obtain ⟨q, hq⟩ : ∃ q, (rn rs j).getD (m + 1) 0 = q := ⟨_, rfl⟩
    rw [hq, he] at hadj
    have hqk := hR.kept j (m + 1) hj hm1
    have hik2 := hR.kept j m hj hm
    rw [hq, hlen] at hqk
    rw [he] at hik2
    have hqf : q ≤ fst rs k := by
      by_cases h1 : q ≤ fst rs k
      · exact h1
      · have := hadj.2 (fst rs k) hgt (by omega)
        rw [hfk.2] at this
        cases this
    by_cases hqf2 : q = fst rs k
    · obtain ⟨e1, e2⟩ := loc_unique hR hj hk hm1 (hR.pos k hk) (by rw [hq, hqf2]; rfl)
      omega
    · have hq2 : q < fst rs k := by omega
      have hrq : rm (c.getD q 0) = false := by have := hqk.2.1; rw [kp_rm hb hqk.1] at this; simpa using this
      have e3 : lev b (Ex.s0 b) c q = lev b (Ex.s0 b) c i := by
        have h1 := hqk.2.2
        have h2 := hik2.2.2
        rw [Ex.LV_at b c q hqk.1] at h1
        rw [Ex.LV_at b c i (by omega)] at h2
        rw [h1, ← h2]
      obtain ⟨k', rfl⟩ : ∃ k', k = k' + 1 := ⟨k - 1, by omega⟩
      obtain ⟨⟨a1, a2⟩, a3⟩ := hR.outer k' hk
      have hl := lst_kept hR (show k' < rs.length by omega)
      rw [hlen] at hl
      have hlq : q ≤ lst rs k' := by
        by_cases h1 : q ≤ lst rs k'
        · exact h1
        · have := a2 q (by omega) hq2
          rw [hqk.2.1] at this
          cases this
      have hrl : rm (c.getD (lst rs k') 0) = false := by have := hl.2.1; rw [kp_rm hb hl.1] at this; simpa using this
      have hiq := hadj.1
      rcases hins with hI | hI
      · have := hI (lst rs k') (by omega) a1 hrl
        have h3 := hl.2.2
        rw [Ex.LV_at b c _ hl.1] at h3
        rw [← h3, Ex.LV_at b c _ hfk.1, this, hlp] at a3
        exact a3 rfl
      · have := hI q hiq hq2 hrq
        omega
theorem mt_st {i : Nat} (h : Iso.st (c.getD i 0) = true) : Iso.mt c i = (Iso.partner c i : Int) := by unfold Iso.mt; rw [if_pos h]
/-- Does a run end with an initiator? -/
theorem en_iff {rs : List (List Nat)} {k : Nat} (hk : lst rs k < c.length) : en (Iso.MT c) rs k = Iso.st (c.getD (lst rs k) 0) := by
  unfold en
  rw [Iso.MT_at c _ hk]
  cases h : Iso.st (c.getD (lst rs k) 0) with
  | true => rw [mt_st h]; have := Iso.partner_gt c (lst rs k); simp; omega
  | false =>
    unfold Iso.mt
    rw [if_neg (by rw [h]; decide)]
    have h2 := Iso.hd_range c (lst rs k)
    split
    · simp; omega
    · simp
theorem fo_some (hb : b = 0 ∨ b = 1) (hF : Formed c) {k j : Nat} (hk : k < (RS (LV b c)).length) (h : fo (Iso.MT c) (RS (LV b c)) k = some j) :
    k < j ∧ j < (RS (LV b c)).length ∧ Iso.st (c.getD (lst (RS (LV b c)) k) 0) = true ∧ Iso.partner c (lst (RS (LV b c)) k) = fst (RS (LV b c)) j ∧ Iso.partner c (lst (RS (LV b c)) k) < c.length := by
  have hR := runs_of (LV b c)
  have hlk := lst_kept hR hk
  rw [Ex.LV_len] at hlk
  unfold fo at h
  rw [en_iff hlk.1] at h
  split at h
  · rename_i hs
    obtain ⟨h1, h2⟩ := fi_some h
    rw [Iso.MT_at c _ hlk.1, mt_st hs] at h2
    have hf := fst_kept hR h1
    rw [Ex.LV_len] at hf
    have hp : Iso.partner c (lst (RS (LV b c)) k) < c.length := by omega
    obtain ⟨j', h3, h4, h5⟩ := pdi_begins hb hF hk hs hp
    have := (loc_unique hR h1 h3 (hR.pos j h1) (hR.pos j' h3) (by have e : (rn (RS (LV b c)) j).getD 0 0 = fst (RS (LV b c)) j := rfl; have e' : (rn (RS (LV b c)) j').getD 0 0 = fst (RS (LV b c)) j' := rfl; omega)).1
    subst this
    exact ⟨h5, h1, hs, by omega, hp⟩
  · cases h
theorem fo_none (hb : b = 0 ∨ b = 1) (hF : Formed c) {k : Nat} (hk : k < (RS (LV b c)).length) (h : fo (Iso.MT c) (RS (LV b c)) k = none) (hs : Iso.st (c.getD (lst (RS (LV b c)) k) 0) = true) : Iso.partner c (lst (RS (LV b c)) k) = c.length := by
  have hR := runs_of (LV b c)
  have hlk := lst_kept hR hk
  rw [Ex.LV_len] at hlk
  have hle := Iso.partner_le c _ hlk.1
  by_cases hp : Iso.partner c (lst (RS (LV b c)) k) < c.length
  · exfalso
    obtain ⟨j, h3, h4, h5⟩ := pdi_begins hb hF hk hs hp
    unfold fo at h
    rw [en_iff hlk.1, if_pos hs, Iso.MT_at c _ hlk.1, mt_st hs, ← h4, fi_found hR h3] at h
    cases h
  · omega
/-- A run begins a sequence, if its first place is no PDI that an initiator has. -/
theorem bg_iff {rs : List (List Nat)} {k : Nat} (hk : fst rs k < c.length) : bg (Iso.MT c) rs k = false ↔ ∃ i, i < fst rs k ∧ Iso.st (c.getD i 0) = true ∧ Iso.partner c i = fst rs k := by
  unfold bg
  rw [Iso.MT_at c _ hk]
  constructor
  · intro h
    simp only [Bool.or_eq_false_iff, decide_eq_false_iff_not] at h
    obtain ⟨h1, h2⟩ := h
    by_cases hs : Iso.st (c.getD (fst rs k) 0) = true
    · rw [mt_st hs] at h2
      have := Iso.partner_gt c (fst rs k)
      omega
    · by_cases hx : c.getD (fst rs k) 0 = 23
      · rcases Iso.mt_pdi hk hx with ⟨q, _⟩ | ⟨i, q1, q2, q3, q4⟩
        · omega
        · rw [mt_st q3] at q4
          exact ⟨i, q2, q3, by omega⟩
      · unfold Iso.mt at h2
        rw [if_neg hs, if_neg hx] at h2
        omega
  · rintro ⟨i, h1, h2, h3⟩
    have := Iso.mt_pair h2 (by rw [h3]; exact hk)
    rw [h3] at this
    rw [this]
    simp
    omega
theorem bg_pred (hb : b = 0 ∨ b = 1) (hF : Formed c) {k : Nat} (hk : k < (RS (LV b c)).length) (h : bg (Iso.MT c) (RS (LV b c)) k = false) : ∃ j, j < k ∧ fo (Iso.MT c) (RS (LV b c)) j = some k := by
  have hR := runs_of (LV b c)
  have hf := fst_kept hR hk
  rw [Ex.LV_len] at hf
  obtain ⟨i, h1, h2, h3⟩ := (bg_iff hf.1).1 h
  obtain ⟨j, h4, h5⟩ := init_ends hb hF hk h2 h3
  refine ⟨j, h4, ?_⟩
  unfold fo
  have hl : lst (RS (LV b c)) j < c.length := by rw [h5]; omega
  rw [en_iff hl, h5, if_pos h2, Iso.MT_at c i (by omega), mt_st h2, h3]
  exact fi_found hR hk
theorem fo_not_bg (hb : b = 0 ∨ b = 1) (hF : Formed c) {k j : Nat} (hk : k < (RS (LV b c)).length) (h : fo (Iso.MT c) (RS (LV b c)) k = some j) : bg (Iso.MT c) (RS (LV b c)) j = false := by
  obtain ⟨h1, h2, h3, h4, h5⟩ := fo_some hb hF hk h
  have hg := Iso.partner_gt c (lst (RS (LV b c)) k)
  exact (bg_iff (by omega)).2 ⟨_, by omega, h3, h4⟩
theorem fo_inj (hb : b = 0 ∨ b = 1) (hF : Formed c) {k k' j : Nat} (hk : k < (RS (LV b c)).length) (hk' : k' < (RS (LV b c)).length) (h : fo (Iso.MT c) (RS (LV b c)) k = some j) (h' : fo (Iso.MT c) (RS (LV b c)) k' = some j) : k = k' := by
  have hR := runs_of (LV b c)
  obtain ⟨h1, h2, h3, h4, h5⟩ := fo_some hb hF hk h
  obtain ⟨g1, g2, g3, g4, g5⟩ := fo_some hb hF hk' h'
  have e1 := Iso.mt_pair h3 h5
  have e2 := Iso.mt_pair g3 g5
  rw [h4] at e1
  rw [g4, e1] at e2
  have e3 : lst (RS (LV b c)) k = lst (RS (LV b c)) k' := by omega
  exact (loc_unique hR hk hk' (show (rn (RS (LV b c)) k).length - 1 < _ by have := hR.pos k hk; omega) (show (rn (RS (LV b c)) k').length - 1 < _ by have := hR.pos k' hk'; omega) e3).1
theorem fo_lvl (hb : b = 0 ∨ b = 1) (hF : Formed c) {k j : Nat} (hk : k < (RS (LV b c)).length) (h : fo (Iso.MT c) (RS (LV b c)) k = some j) : lvl (LV b c) (RS (LV b c)) j = lvl (LV b c) (RS (LV b c)) k := by
  have hR := runs_of (LV b c)
  obtain ⟨h1, h2, h3, h4, h5⟩ := fo_some hb hF hk h
  have hlk := lst_kept hR hk
  obtain ⟨hlp, _⟩ := Ex.lev_pair b (Ex.s0 b) h3 h5
  unfold lvl
  rw [← hlk.2.2]
  rw [Ex.LV_len] at hlk
  rw [← h4, Ex.LV_at b c _ h5, Ex.LV_at b c _ hlk.1, hlp]
end
end Go.Proofs.Ythohbiklnknofaa.Rn

/- Sides of sequences, plain paragraphs: plain mathematics. -/
namespace Go.Proofs.Ythohbiklnknofaa
open Go.RowKit Go.Maps
set_option linter.unusedVariables false
set_option maxHeartbeats 1000000
set_option maxRecDepth 100000
namespace Rn
def kc (c : List Int) (k : Nat) : Nat := ((List.range k).filter fun i => !(Ex.rm (c.getD i 0))).length
theorem kc_succ (c : List Int) (k : Nat) : kc c (k + 1) = kc c k + if Ex.rm (c.getD k 0) then 0 else 1 := by
  unfold kc
  rw [List.range_succ, List.filter_append, List.length_append]
  cases h : Ex.rm (c.getD k 0) <;> (simp only [List.filter_cons, List.filter_nil, h]; rfl)
theorem kc_le (c : List Int) (k : Nat) : kc c k ≤ k := Nat.le_trans (List.length_filter_le _ _) (by simp)
theorem sd_two (a b : Int) : sd a b = 1 ∨ sd a b = 2 := by unfold sd; split <;> simp
theorem sqs_mem {b : Int} {lv mt : List Int} {rs : List (List Nat)} {j : Nat} (h : j < (sqs b lv mt rs rs.length).length) : ∃ k, k < rs.length ∧ bg mt rs k = true ∧ (sqs b lv mt rs rs.length).getD j default = sq b lv mt rs k := by
  have h1 : (sqs b lv mt rs rs.length).getD j default ∈ sqs b lv mt rs rs.length := by
    rw [show (sqs b lv mt rs rs.length).getD j default = (sqs b lv mt rs rs.length)[j] from by simp [List.getD, h]]
    exact List.getElem_mem h
  unfold sqs at h1
  obtain ⟨k, h2, h3⟩ := List.mem_map.1 h1
  obtain ⟨h4, h5⟩ := List.mem_filter.1 h2
  exact ⟨k, List.mem_range.1 h4, h5, h3.symm⟩
theorem sq_side {b : Int} (hb : b = 0 ∨ b = 1) {c : List Int} {j : Nat} (h : j < (sqs b (Ex.LV b c) (Iso.MT c) (RS (Ex.LV b c)) (RS (Ex.LV b c)).length).length) :
    ∃ s, (sqs b (Ex.LV b c) (Iso.MT c) (RS (Ex.LV b c)) (RS (Ex.LV b c)).length).getD j default = s ∧ (s.sos = 1 ∨ s.sos = 2) ∧ (s.eos = 1 ∨ s.eos = 2) ∧ b ≤ s.lvl := by
  obtain ⟨k, h1, h2, h3⟩ := sqs_mem h
  refine ⟨_, rfl, ?_⟩
  rw [h3]
  refine ⟨sd_two _ _, sd_two _ _, ?_⟩
  have hf := fst_kept (runs_of (Ex.LV b c)) h1
  rw [Ex.LV_len] at hf
  have hr : Ex.rm (c.getD (fst (RS (Ex.LV b c)) k) 0) = false := by have := hf.2; rw [kp_rm hb hf.1] at this; simpa using this
  show b ≤ lvl (Ex.LV b c) (RS (Ex.LV b c)) k
  unfold lvl
  rw [Ex.LV_at b c _ hf.1]
  exact lev_keep hb hr
theorem kept_len {b : Int} (hb : b = 0 ∨ b = 1) (c : List Int) : (RS (Ex.LV b c)).flatten.length = kc c c.length := by
  rw [(runs_of (Ex.LV b c)).flat, Ex.LV_len]
  unfold kc
  congr 1
  apply List.filter_congr
  intro i hi
  exact kp_rm hb (List.mem_range.1 hi)
theorem pl_no {c : List Int} : ∀ k, Ex.pl c k = true → ∀ i, i < k → Iso.st (c.getD i 0) = false := by
  intro k
  induction k with
  | zero => intro _ i hi; omega
  | succ k ih =>
    intro h i hi
    simp only [Ex.pl, Bool.and_eq_true, Bool.not_eq_true'] at h
    by_cases hik : i = k
    · subst hik; exact h.2
    · exact ih h.1.1 i (by omega)
/-- Of a plain paragraph there is one sequence, or none. -/
theorem plain {b : Int} (hb : b = 0 ∨ b = 1) {c : List Int} (hF : Ex.Formed c) (hp : Ex.pl c c.length = true) :
    (kc c c.length = 0 ∧ sqs b (Ex.LV b c) (Iso.MT c) (RS (Ex.LV b c)) (RS (Ex.LV b c)).length = []) ∨ (0 < kc c c.length ∧ ∃ ps, sqs b (Ex.LV b c) (Iso.MT c) (RS (Ex.LV b c)) (RS (Ex.LV b c)).length = [⟨ps, b, 1 + b, 1 + b⟩] ∧ ps.length = kc c c.length) := by
  have hR := runs_of (Ex.LV b c)
  have hkl := kept_len hb c
  have hlv : ∀ k, k < (RS (Ex.LV b c)).length → lvl (Ex.LV b c) (RS (Ex.LV b c)) k = b := by
    intro k hk
    have hf := fst_kept hR hk
    have h1 := hf.2
    unfold kp at h1
    rw [Ex.LV_len] at hf
    rw [Ex.LV_at b c _ hf.1] at h1
    unfold lvl
    rw [Ex.LV_at b c _ hf.1]
    rcases (Ex.pl_lev (b := b) hp hf.1).1 with h2 | h2
    · exact h2
    · rw [h2] at h1; simp at h1
  have hN : (RS (Ex.LV b c)).length ≤ 1 := by
    by_cases h : (RS (Ex.LV b c)).length ≤ 1
    · exact h
    · exfalso
      have h1 := (hR.outer 0 (by omega)).2
      have h2 := hlv 0 (by omega)
      have h3 := hlv 1 (by omega)
      unfold lvl at h2 h3
      rw [h2, show (0 : Nat) + 1 = 1 from rfl, h3] at h1
      exact h1 rfl
  have hst := pl_no c.length hp
  generalize RS (Ex.LV b c) = rs at *
  have hcases : rs = [] ∨ ∃ r, rs = [r] := by
    match rs, hN with
    | [], _ => exact .inl rfl
    | [r], _ => exact .inr ⟨r, rfl⟩
    | _ :: _ :: _, h => simp at h
  rcases hcases with rfl | ⟨r, rfl⟩
  · left
    exact ⟨by rw [← hkl]; rfl, rfl⟩
  · right
    have hpos := hR.pos 0 (by simp)
    have hrl : r.length = kc c c.length := by rw [← hkl]; simp
    have e0 : rn [r] 0 = r := rfl
    rw [e0] at hpos
    refine ⟨by omega, ?_⟩
    have hf := fst_kept hR (show 0 < [r].length by simp)
    have hl := lst_kept hR (show 0 < [r].length by simp)
    rw [Ex.LV_len] at hf hl
    have hbg : bg (Iso.MT c) [r] 0 = true := by
      cases hbb : bg (Iso.MT c) [r] 0 with
      | true => rfl
      | false =>
        obtain ⟨i, h1, h2, h3⟩ := (bg_iff hf.1).1 hbb
        have := hst i (by omega)
        rw [h2] at this
        cases this
    have hfo : fo (Iso.MT c) [r] 0 = none := by
      unfold fo
      rw [en_iff hl.1, hst _ hl.1]
      rfl
    have hch : chn (fo (Iso.MT c) [r]) ([r].length - 0) 0 = [0] := by
      show chn (fo (Iso.MT c) [r]) (0 + 1) 0 = [0]
      rw [chn_succ, hfo]
    have hlt : ltc (fo (Iso.MT c) [r]) ([r].length - 0) 0 = 0 := by unfold ltc; rw [hch]; rfl
    have hsd : sd b b = 1 + b := by rcases hb with rfl | rfl <;> decide
    refine ⟨r, ?_, hrl⟩
    unfold sqs
    rw [show [r].length = 1 from rfl, show List.range 1 = [0] from rfl]
    simp only [List.filter_cons, hbg, if_true, List.filter_nil, List.map_cons, List.map_nil]
    unfold sq
    rw [hch, hlt, hlv 0 (by simp), plc_one, e0]
    have e1 : ah b (Ex.LV b c) [r] 0 = b := rfl
    have e2 : bh b (Ex.LV b c) (Iso.MT c) [r] 0 = b := rfl
    rw [e1, e2, hsd]
end Rn
end Go.Proofs.Ythohbiklnknofaa

/- Each place that is kept lies in one sequence: plain mathematics. -/
namespace Go.Proofs.Ythohbiklnknofaa.Rn
set_option linter.unusedVariables false
open Ex (lev LV rm Formed)
section
variable {f : Nat → Option Nat} {N : Nat}
theorem chn_sorted (hf : ∀ k j, k < N → f k = some j → k < j ∧ j < N) : ∀ c a, a < N → (chn f c a).Pairwise (· < ·) ∧ ∀ j ∈ chn f c a, a ≤ j ∧ j < N := by
  intro c
  induction c with
  | zero => intro a _; exact ⟨by simp [chn], by simp [chn]⟩
  | succ c ih =>
    intro a ha
    rw [chn_succ]
    cases h : f a with
    | none => exact ⟨by simp, fun j hj => by simp at hj; omega⟩
    | some b =>
      obtain ⟨h1, h2⟩ := hf a b ha h
      obtain ⟨i1, i2⟩ := ih b h2
      refine ⟨List.pairwise_cons.2 ⟨fun j hj => by have := (i2 j hj).1; omega, i1⟩, fun j hj => ?_⟩
      rcases List.mem_cons.1 hj with rfl | hj
      · omega
      · have := i2 j hj; omega
theorem count_bg (hf : ∀ k j, k < N → f k = some j → k < j ∧ j < N) {k : Nat} (hk : ∀ a, a < N → f a ≠ some k) : ∀ c a, a < N → N - a ≤ c → (chn f c a).count k = [a].count k := by
  intro c
  induction c with
  | zero => intro a ha hc; omega
  | succ c ih =>
    intro a ha hc
    rw [chn_succ]
    cases h : f a with
    | none => rfl
    | some b =>
      obtain ⟨h1, h2⟩ := hf a b ha h
      have hi := ih b h2 (by omega)
      have hbk : ¬ b = k := fun e => hk a ha (by rw [h, e])
      have : ([b] : List Nat).count k = 0 := by rw [List.count_eq_zero]; simp; exact fun e => hbk e.symm
      rw [this] at hi
      simp only
      rw [show a :: chn f c b = [a] ++ chn f c b from rfl, List.count_append, hi, Nat.add_zero]
theorem count_pred (hf : ∀ k j, k < N → f k = some j → k < j ∧ j < N) {k p : Nat} (hp : p < N) (hpk : f p = some k) (hu : ∀ a, a < N → f a = some k → a = p) : ∀ c a, a < N → N - a ≤ c → (chn f c a).count k = [a].count k + (chn f c a).count p := by
  have hpk1 := hf p k hp hpk
  intro c
  induction c with
  | zero => intro a ha hc; omega
  | succ c ih =>
    intro a ha hc
    rw [chn_succ]
    cases h : f a with
    | none =>
      have hap : ¬ a = p := fun e => by rw [e, hpk] at h; cases h
      have : ([a] : List Nat).count p = 0 := by rw [List.count_eq_zero]; simp; exact fun e => hap e.symm
      simp only
      omega
    | some b =>
      obtain ⟨h1, h2⟩ := hf a b ha h
      have hi := ih b h2 (by omega)
      simp only
      rw [show a :: chn f c b = [a] ++ chn f c b from rfl, List.count_append, List.count_append, hi]
      have : ([b] : List Nat).count k = ([a] : List Nat).count p := by
        by_cases e : a = p
        · subst e
          rw [hpk] at h
          cases h
          simp
        · have e2 : ¬ b = k := fun q => e (hu a ha (by rw [h, q]))
          have q1 : ([b] : List Nat).count k = 0 := by rw [List.count_eq_zero]; simp; exact fun e => e2 e.symm
          have q2 : ([a] : List Nat).count p = 0 := by rw [List.count_eq_zero]; simp; exact fun q => e q.symm
          rw [q1, q2]
      omega
theorem sum_bg {k : Nat} {g : Nat → List Nat} (l : List Nat) (h : ∀ a ∈ l, (g a).count k = [a].count k) : (l.flatMap g).count k = l.count k := by
  induction l with
  | nil => rfl
  | cons a t ih =>
    rw [List.flatMap_cons, List.count_append, h a (by simp), ih (fun q hq => h q (by simp [hq])), show a :: t = [a] ++ t from rfl, List.count_append]
theorem sum_pred {k p : Nat} {g : Nat → List Nat} (l : List Nat) (h : ∀ a ∈ l, (g a).count k = [a].count k + (g a).count p) : (l.flatMap g).count k = l.count k + (l.flatMap g).count p := by
  induction l with
  | nil => rfl
  | cons a t ih =>
    rw [List.flatMap_cons, List.count_append, List.count_append, h a (by simp), ih (fun q hq => h q (by simp [hq])), show a :: t = [a] ++ t from rfl, List.count_append]
    omega
/-- The chains of those that begin are all of the runs, each once. -/
theorem chains_perm (hf : ∀ k j, k < N → f k = some j → k < j ∧ j < N) (bgn : Nat → Bool) (h1 : ∀ k, k < N → bgn k = false → ∃ p, p < k ∧ f p = some k) (h2 : ∀ a k, a < N → f a = some k → bgn k = false) (h3 : ∀ a a' k, a < N → a' < N → f a = some k → f a' = some k → a = a') :
    (((List.range N).filter bgn).flatMap fun a => chn f (N - a) a).Perm (List.range N) := by
  have hmem : ∀ a ∈ (List.range N).filter bgn, a < N := fun a ha => List.mem_range.1 (List.mem_filter.1 ha).1
  rw [List.perm_iff_count]
  intro k
  rw [List.count_range]
  by_cases hk : k < N
  · rw [if_pos hk]
    induction k using Nat.strongRecOn with
    | ind k ih =>
      have hcf : ((List.range N).filter bgn).count k = if bgn k then 1 else 0 := by
        cases hb : bgn k with
        | true => rw [List.count_filter hb, List.count_range, if_pos hk]; rfl
        | false =>
          rw [if_neg (by decide)]
          rw [List.count_eq_zero]
          intro hm
          have := (List.mem_filter.1 hm).2
          rw [hb] at this
          cases this
      cases hb : bgn k with
      | true =>
        rw [sum_bg _ (fun a ha => count_bg hf (fun q hq e => by have := h2 q k hq e; rw [hb] at this; cases this) (N - a) a (hmem a ha) (Nat.le_refl _)), hcf, hb]
        rfl
      | false =>
        obtain ⟨p, hp1, hp2⟩ := h1 k hk hb
        rw [sum_pred _ (fun a ha => count_pred hf (by omega) hp2 (fun q hq e => h3 q p k hq (by omega) e hp2) (N - a) a (hmem a ha) (Nat.le_refl _)), hcf, hb, ih p hp1 (by omega)]
        rfl
  · rw [if_neg hk, List.count_eq_zero]
    intro hm
    obtain ⟨a, ha, hm⟩ := List.mem_flatMap.1 hm
    have := ((chn_sorted hf (N - a) a (hmem a ha)).2 k hm).2
    omega
end
theorem range_rn (rs : List (List Nat)) : (List.range rs.length).flatMap (rn rs) = rs.flatten := by
  have : (List.range rs.length).map (rn rs) = rs := by
    apply List.ext_getElem
    · simp
    · intro i h1 h2
      simp [rn, List.getD, h2]
  rw [List.flatMap_def, this]
section
variable {b : Int} {c : List Int}
theorem fo_up (hb : b = 0 ∨ b = 1) (hF : Formed c) : ∀ k j, k < (RS (LV b c)).length → fo (Iso.MT c) (RS (LV b c)) k = some j → k < j ∧ j < (RS (LV b c)).length := fun k j hk h => ⟨(fo_some hb hF hk h).1, (fo_some hb hF hk h).2.1⟩
/-- All places of all sequences. -/
def AP (b : Int) (c : List Int) : List Nat := (sqs b (LV b c) (Iso.MT c) (RS (LV b c)) (RS (LV b c)).length).flatMap Sq.places
theorem AP_perm (hb : b = 0 ∨ b = 1) (hF : Formed c) : (AP b c).Perm ((List.range c.length).filter (kp (LV b c))) := by
  have h1 : AP b c = (((List.range (RS (LV b c)).length).filter (bg (Iso.MT c) (RS (LV b c)))).flatMap fun a => chn (fo (Iso.MT c) (RS (LV b c))) ((RS (LV b c)).length - a) a).flatMap (rn (RS (LV b c))) := by
    unfold AP sqs
    rw [List.flatMap_assoc, List.flatMap_map]
    rfl
  rw [h1]
  have h2 := chains_perm (fo_up hb hF) (bg (Iso.MT c) (RS (LV b c))) (fun k hk h => bg_pred hb hF hk h) (fun a k ha h => fo_not_bg hb hF ha h) (fun a a' k ha ha' h h' => fo_inj hb hF ha ha' h h')
  have h3 := List.Perm.flatMap_right (rn (RS (LV b c))) h2
  rw [range_rn, (runs_of (LV b c)).flat, Ex.LV_len] at h3
  exact h3
theorem AP_count (hb : b = 0 ∨ b = 1) (hF : Formed c) (i : Nat) (hi : i < c.length) : (AP b c).count i = if kp (LV b c) i then 1 else 0 := by
  rw [(AP_perm hb hF).count_eq]
  have hn : ((List.range c.length).filter (kp (LV b c))).Nodup := List.Pairwise.filter _ List.nodup_range
  rw [hn.count]
  cases h : kp (LV b c) i with
  | true => rw [if_pos (List.mem_filter.2 ⟨List.mem_range.2 hi, h⟩)]; rfl
  | false => rw [if_neg (fun hm => by have := (List.mem_filter.1 hm).2; rw [h] at this; cases this)]; rfl
/-- A sequence's places rise, are kept and have its level. -/
theorem sq_places (hb : b = 0 ∨ b = 1) (hF : Formed c) {k : Nat} (hk : k < (RS (LV b c)).length) :
    (sq b (LV b c) (Iso.MT c) (RS (LV b c)) k).places.Pairwise (· < ·) ∧ ∀ i ∈ (sq b (LV b c) (Iso.MT c) (RS (LV b c)) k).places, i < c.length ∧ (LV b c).getD i 0 = (sq b (LV b c) (Iso.MT c) (RS (LV b c)) k).lvl := by
  have hR := runs_of (LV b c)
  obtain ⟨s1, s2⟩ := chn_sorted (fo_up hb hF) ((RS (LV b c)).length - k) k hk
  have hlv : ∀ f c' a, f = fo (Iso.MT c) (RS (LV b c)) → a < (RS (LV b c)).length → ∀ j ∈ chn f c' a, lvl (LV b c) (RS (LV b c)) j = lvl (LV b c) (RS (LV b c)) a := by
    intro f c'
    induction c' with
    | zero => intro a _ _ j hj; simp [chn] at hj
    | succ c' ih =>
      intro a hfe ha j hj
      rw [chn_succ] at hj
      rcases List.mem_cons.1 hj with rfl | hj
      · rfl
      · cases h : f a with
        | none => rw [h] at hj; simp at hj
        | some q =>
          rw [h] at hj
          subst hfe
          rw [ih q rfl (fo_some hb hF ha h).2.1 j hj, fo_lvl hb hF ha h]
  constructor
  · show (plc _ _).Pairwise _
    unfold plc
    rw [List.pairwise_flatMap]
    refine ⟨fun a ha => ?_, s1.imp_of_mem fun {a a'} ha ha' hlt x hx y hy => ?_⟩
    · have haN := (s2 a ha).2
      rw [List.pairwise_iff_getElem]
      intro i j hi hj hij
      have := run_lt hR haN j i hij hj
      simpa [List.getD, hi, hj] using this
    · have haN' := (s2 a' ha').2
      obtain ⟨i, hi, rfl⟩ := List.mem_iff_getElem.1 hx
      obtain ⟨j, hj, rfl⟩ := List.mem_iff_getElem.1 hy
      have h1 := (run_le hR (show a < (RS (LV b c)).length by omega) hi).2
      have h2 := (run_le hR haN' hj).1
      have h3 := lst_fst hR a' a hlt haN'
      rw [show (rn (RS (LV b c)) a).getD i 0 = (rn (RS (LV b c)) a)[i] from by simp [List.getD, hi]] at h1
      rw [show (rn (RS (LV b c)) a').getD j 0 = (rn (RS (LV b c)) a')[j] from by simp [List.getD, hj]] at h2
      omega
  · intro i hi
    obtain ⟨a, ha, hi⟩ := List.mem_flatMap.1 hi
    have haN := (s2 a ha).2
    obtain ⟨m, hm, rfl⟩ := List.mem_iff_getElem.1 hi
    have h1 := hR.kept a m haN hm
    rw [show (rn (RS (LV b c)) a).getD m 0 = (rn (RS (LV b c)) a)[m] from by simp [List.getD, hm], Ex.LV_len] at h1
    exact ⟨h1.1, by rw [h1.2.2]; exact hlv _ _ k rfl hk a ha⟩
end
/-- How often each place has been seen. -/
def CL (n : Nat) (l : List Nat) : List Int := (List.range n).map fun i => (l.count i : Int)
theorem CL_len (n : Nat) (l : List Nat) : (CL n l).length = n := by simp [CL]
theorem CL_at (n : Nat) (l : List Nat) (i : Nat) (h : i < n) : (CL n l).getD i 0 = (l.count i : Int) := by simp [CL, List.getD, h]
theorem CL_nil (n : Nat) : CL n [] = List.replicate n 0 := by
  apply List.ext_getElem
  · simp [CL]
  · intro i h1 h2; simp [CL]
theorem CL_snoc (n : Nat) (l : List Nat) (x : Nat) : CL n (l ++ [x]) = (CL n l).set x ((l.count x : Int) + 1) := by
  apply List.ext_getElem
  · simp [CL]
  · intro i h1 h2
    rw [List.getElem_set]
    simp only [CL, List.getElem_map, List.getElem_range, List.count_append]
    by_cases h : x = i
    · subst h; simp
    · rw [if_neg h]
      have : ([x] : List Nat).count i = 0 := by rw [List.count_eq_zero]; simp; exact fun e => h e.symm
      rw [this]; simp
end Go.Proofs.Ythohbiklnknofaa.Rn

/- The document's neighbour, first, run. -/
namespace Go.Proofs.Ythohbiklnknofaa
open Go.RowKit Go.Maps
set_option linter.unusedVariables false
set_option maxHeartbeats 1000000
set_option maxRecDepth 100000
section
variable {lv : List Int} {ao : Option Addr} {n cap : Nat} {w : World}
theorem nb_up_some (h : Row .i64 w ao n cap lv) (hn : n ≤ 2000) {i y : Nat} (hiy : i < y) (hy : y < n) (hk : 0 ≤ lv.getD y 0) (hz : ∀ z, i < z → z < y → lv.getD z 0 < 0) :
    Calls Try.prog 36 #[.slice ao n cap, .int .i64 (i : Int), .int .i64 1] w fun e w' => e = .returned (.int .i64 (y : Int)) ∧ w = w' := by
  obtain ⟨b, off, rfl, hbl, hc⟩ := h.cells (by omega)
  have hl := h.len
  have HC := hide hc
  have HL := hide hl
  clear h hc hl
  go_enter Try.func36, Try.ntmps36
  go_wp2
  go_loopw [7] (fun s7 wr => ∃ z : Nat, i < z ∧ z ≤ y ∧ s7 = .int .i64 (z : Int) ∧ w = wr) (fun s7 _ => y - (intOf s7).toNat)
  case atStart => exact ⟨i + 1, by omega, by omega, by go_num, rfl⟩
  case round =>
    obtain ⟨z, hz1, hz2, rfl, rfl⟩ := hrel
    have hzn : (z : Int) < (n : Int) := by omega
    have cz := HC.out z (by rw [HL.out]; omega)
    by_cases hzy : z < y
    · have hneg := hz z hz1 hzy
      generalize lv.getD z 0 = x at *
      have hneg2 : ¬ (0 : Int) ≤ x := by omega
      clear hz
      go_wp2
      exact ⟨⟨z + 1, by omega, by omega, by go_num, trivial⟩, by simp [intOf]; omega⟩
    · obtain rfl : z = y := by omega
      generalize lv.getD z 0 = x at *
      clear hz
      go_wp2
      go_ret
      exact ⟨rfl, rfl⟩
theorem nb_up_none (h : Row .i64 w ao n cap lv) (hn : n ≤ 2000) {i : Nat} (hi : i < n) (hz : ∀ z, i < z → z < n → lv.getD z 0 < 0) :
    Calls Try.prog 36 #[.slice ao n cap, .int .i64 (i : Int), .int .i64 1] w fun e w' => e = .returned (.int .i64 (-1)) ∧ w = w' := by
  obtain ⟨b, off, rfl, hbl, hc⟩ := h.cells (by omega)
  have hl := h.len
  have HC := hide hc
  have HL := hide hl
  clear h hc hl
  go_enter Try.func36, Try.ntmps36
  go_wp2
  go_loopw [7] (fun s7 wr => ∃ z : Nat, i < z ∧ z ≤ n ∧ s7 = .int .i64 (z : Int) ∧ w = wr) (fun s7 _ => n - (intOf s7).toNat)
  case atStart => exact ⟨i + 1, by omega, by omega, by go_num, rfl⟩
  case round =>
    obtain ⟨z, hz1, hz2, rfl, rfl⟩ := hrel
    by_cases hzy : z < n
    · have hzn : (z : Int) < (n : Int) := by omega
      have cz := HC.out z (by rw [HL.out]; omega)
      have hneg := hz z hz1 hzy
      generalize lv.getD z 0 = x at *
      have hneg2 : ¬ (0 : Int) ≤ x := by omega
      clear hz
      go_wp2
      exact ⟨⟨z + 1, by omega, by omega, by go_num, trivial⟩, by simp [intOf]; omega⟩
    · obtain rfl : z = n := by omega
      have hne : ¬ ((z : Int) < (z : Int)) := by omega
      clear hz
      go_wp2
      go_ret
      exact ⟨rfl, rfl⟩
theorem nb_dn_some (h : Row .i64 w ao n cap lv) (hn : n ≤ 2000) {i y : Nat} (hiy : y < i) (hi : i < n) (hk : 0 ≤ lv.getD y 0) (hz : ∀ z, y < z → z < i → lv.getD z 0 < 0) :
    Calls Try.prog 36 #[.slice ao n cap, .int .i64 (i : Int), .int .i64 (-1)] w fun e w' => e = .returned (.int .i64 (y : Int)) ∧ w = w' := by
  obtain ⟨b, off, rfl, hbl, hc⟩ := h.cells (by omega)
  have hl := h.len
  have HC := hide hc
  have HL := hide hl
  clear h hc hl
  obtain ⟨i', rfl⟩ : ∃ i', i = i' + 1 := ⟨i - 1, by omega⟩
  go_enter Try.func36, Try.ntmps36
  go_wp2
  go_loopw [7] (fun s7 wr => ∃ z : Nat, y ≤ z ∧ z ≤ i' ∧ s7 = .int .i64 (z : Int) ∧ w = wr) (fun s7 _ => (intOf s7).toNat)
  case atStart => exact ⟨i', by omega, by omega, by go_num, rfl⟩
  case round =>
    obtain ⟨z, hz1, hz2, rfl, rfl⟩ := hrel
    have hzn : (z : Int) < (n : Int) := by omega
    have hz0 : (0 : Int) ≤ (z : Int) := by omega
    have cz := HC.out z (by rw [HL.out]; omega)
    by_cases hzy : y < z
    · have hneg := hz z hzy (by omega)
      obtain ⟨z', rfl⟩ : ∃ z', z = z' + 1 := ⟨z - 1, by omega⟩
      generalize lv.getD (z' + 1) 0 = x at *
      have hneg2 : ¬ (0 : Int) ≤ x := by omega
      clear hz
      go_wp2
      refine ⟨⟨z', by omega, by omega, by omega⟩, ?_⟩
      show max ((z' : Int) + 1 + -1) 0 < (z' : Int) + 1
      omega
    · obtain rfl : z = y := by omega
      generalize lv.getD z 0 = x at *
      clear hz
      go_wp2
      go_ret
      exact ⟨rfl, rfl⟩
theorem nb_dn_none (h : Row .i64 w ao n cap lv) (hn : n ≤ 2000) {i : Nat} (hi : i < n) (hz : ∀ z, z < i → lv.getD z 0 < 0) :
    Calls Try.prog 36 #[.slice ao n cap, .int .i64 (i : Int), .int .i64 (-1)] w fun e w' => e = .returned (.int .i64 (-1)) ∧ w = w' := by
  obtain ⟨b, off, rfl, hbl, hc⟩ := h.cells (by omega)
  have hl := h.len
  have HC := hide hc
  have HL := hide hl
  clear h hc hl
  go_enter Try.func36, Try.ntmps36
  go_wp2
  go_loopw [7] (fun s7 wr => ∃ z : Nat, z ≤ i ∧ s7 = .int .i64 ((z : Int) - 1) ∧ w = wr) (fun s7 _ => (intOf s7 + 1).toNat)
  case atStart => exact ⟨i, Nat.le_refl _, by go_num, rfl⟩
  case round =>
    obtain ⟨z, hz2, rfl, rfl⟩ := hrel
    by_cases hzy : 0 < z
    · obtain ⟨z', rfl⟩ : ∃ z', z = z' + 1 := ⟨z - 1, by omega⟩
      have hzn : (z' : Int) < (n : Int) := by omega
      have e1 : ((z' + 1 : Nat) : Int) - 1 = (z' : Int) := by omega
      rw [e1]
      have cz := HC.out z' (by rw [HL.out]; omega)
      have hneg := hz z' (by omega)
      generalize lv.getD z' 0 = x at *
      have hneg2 : ¬ (0 : Int) ≤ x := by omega
      clear hz
      go_wp2
      exact ⟨⟨z', by omega, by go_num, trivial⟩, by simp [intOf]; omega⟩
    · obtain rfl : z = 0 := by omega
      clear hz
      go_wp2
      go_ret
      exact ⟨rfl, rfl⟩
end
end Go.Proofs.Ythohbiklnknofaa

/- The document's first, run. -/
namespace Go.Proofs.Ythohbiklnknofaa
open Go.RowKit Go.Maps
set_option linter.unusedVariables false
set_option maxHeartbeats 1000000
set_option maxRecDepth 100000
section
variable {lv : List Int} {rs : List (List Nat)} {ao : Option Addr} {n cap : Nat} {w : World}
theorem kp_false {z : Nat} (h : Rn.kp lv z = false) : lv.getD z 0 < 0 := by unfold Rn.kp at h; simpa using h
theorem kp_true {z : Nat} (h : Rn.kp lv z = true) : 0 ≤ lv.getD z 0 := by unfold Rn.kp at h; simpa using h
theorem rfirst_neg (h : Row .i64 w ao n cap lv) {i : Nat} (hi : i < n) (hz : lv.getD i 0 < 0) :
    Calls Try.prog 20 #[.slice ao n cap, .int .i64 (i : Int)] w fun e w' => e = .returned (.bool false) ∧ ∃ q, w' = w.drewN q := by
  obtain ⟨b, off, rfl, hbl, hc⟩ := h.cells (by omega)
  have ci := hc i (by rw [h.len]; exact hi)
  have hin : (i : Int) < (n : Int) := by omega
  generalize lv.getD i 0 = x at *
  clear h hc
  go_enter Try.func20, Try.ntmps20
  go_wp2
  go_ret
  exact ⟨rfl, 0, rfl⟩
theorem rfirst_two (h : Row .i64 w ao n cap lv) (hn : n ≤ 2000) {i y : Nat} (hi : i < n) (hz : 0 ≤ lv.getD i 0) (hy : y < i) (hk : 0 ≤ lv.getD y 0) (ha : ∀ z, y < z → z < i → lv.getD z 0 < 0) :
    Calls Try.prog 20 #[.slice ao n cap, .int .i64 (i : Int)] w fun e w' => e = .returned (.bool (lv.getD y 0 != lv.getD i 0)) ∧ ∃ q, w' = w.drewN q := by
  have HN := hide (nb_dn_some h hn hy hi hk ha)
  obtain ⟨b, off, rfl, hbl, hc⟩ := h.cells (by omega)
  have ci := hc i (by rw [h.len]; exact hi)
  have cy := hc y (by rw [h.len]; omega)
  have hin : (i : Int) < (n : Int) := by omega
  have hin2 : (y : Int) < (n : Int) := by omega
  have gg : decide ((y : Int) < 0) = false := decide_eq_false (by omega)
  have gg1 : ¬ (y : Int) < 0 := by omega
  generalize lv.getD i 0 = x at *
  generalize lv.getD y 0 = x' at *
  have hz2 : ¬ x < 0 := by omega
  clear h hc ha
  go_enter Try.func20, Try.ntmps20
  go_wp2_with fail
  refine HN.out.mono ?_
  rintro e w' ⟨rfl, rfl⟩
  go_wp2
  go_quiet (fail)
  go_wp2
  go_ret
  exact ⟨rfl, _, rfl⟩
theorem rfirst_none (h : Row .i64 w ao n cap lv) (hn : n ≤ 2000) {i : Nat} (hi : i < n) (hz : 0 ≤ lv.getD i 0) (ha : ∀ z, z < i → lv.getD z 0 < 0) :
    Calls Try.prog 20 #[.slice ao n cap, .int .i64 (i : Int)] w fun e w' => e = .returned (.bool true) ∧ ∃ q, w' = w.drewN q := by
  have HN := hide (nb_dn_none h hn hi ha)
  obtain ⟨b, off, rfl, hbl, hc⟩ := h.cells (by omega)
  have ci := hc i (by rw [h.len]; exact hi)
  have hin : (i : Int) < (n : Int) := by omega
  generalize lv.getD i 0 = x at *
  have hz2 : ¬ x < 0 := by omega
  clear h hc ha
  go_enter Try.func20, Try.ntmps20
  go_wp2_with fail
  refine HN.out.mono ?_
  rintro e w' ⟨rfl, rfl⟩
  go_wp2
  go_quiet (fail)
  go_wp2
  go_ret
  exact ⟨rfl, _, rfl⟩
/-- A run begins here. -/
theorem rfirst_yes (h : Row .i64 w ao n cap lv) (hn : n ≤ 2000) (hR : Rn.Runs lv rs) {j : Nat} (hj : j < rs.length) :
    Calls Try.prog 20 #[.slice ao n cap, .int .i64 (Rn.fst rs j : Int)] w fun e w' => e = .returned (.bool true) ∧ ∃ q, w' = w.drewN q := by
  have hf := Rn.fst_kept hR hj
  rw [h.len] at hf
  by_cases hj0 : j = 0
  · subst hj0
    exact rfirst_none h hn hf.1 (kp_true hf.2) (fun z hz => kp_false (hR.before hj z hz))
  · obtain ⟨j', rfl⟩ : ∃ j', j = j' + 1 := ⟨j - 1, by omega⟩
    obtain ⟨⟨a1, a2⟩, a3⟩ := hR.outer j' hj
    have hl := Rn.lst_kept hR (show j' < rs.length by omega)
    have := rfirst_two h hn hf.1 (kp_true hf.2) a1 (kp_true hl.2.1) (fun z h1 h2 => kp_false (a2 z h1 h2))
    rw [hl.2.2, show (lv.getD (Rn.fst rs j') 0 != lv.getD (Rn.fst rs (j' + 1)) 0) = true from bne_iff_ne.2 a3] at this
    exact this
/-- No run begins within a run. -/
theorem rfirst_in (h : Row .i64 w ao n cap lv) (hn : n ≤ 2000) (hR : Rn.Runs lv rs) {j m : Nat} (hj : j < rs.length) (hm : m + 1 < (Rn.rn rs j).length) :
    Calls Try.prog 20 #[.slice ao n cap, .int .i64 (((Rn.rn rs j).getD (m + 1) 0 : Nat) : Int)] w fun e w' => e = .returned (.bool false) ∧ ∃ q, w' = w.drewN q := by
  have h1 := hR.kept j (m + 1) hj hm
  have h2 := hR.kept j m hj (by omega)
  obtain ⟨a1, a2⟩ := hR.inner j m hj hm
  rw [h.len] at h1 h2
  have := rfirst_two h hn h1.1 (kp_true h1.2.1) a1 (kp_true h2.2.1) (fun z h1 h2 => kp_false (a2 z h1 h2))
  rw [h1.2.2, h2.2.2, show (lv.getD (Rn.fst rs j) 0 != lv.getD (Rn.fst rs j) 0) = false from by simp] at this
  exact this
/-- The run that begins here. -/
theorem rrun_any (h : Row .i64 w ao n cap lv) (hn : n ≤ 2000) (hR : Rn.Runs lv rs) {j : Nat} (hj : j < rs.length) :
    Calls Try.prog 21 #[.slice ao n cap, .int .i64 (Rn.fst rs j : Int)] w fun e w' => ∃ g cp, e = .returned (.slice (some ⟨g, 0, none⟩) (Rn.rn rs j).length cp) ∧ w'.ownsRow w.heap.size 3 1 (.slice (some ⟨g, 0, none⟩) (Rn.rn rs j).length cp) (Rn.rn rs j).length ((Rn.zs (Rn.rn rs j)).map (Value.int .i64)) ∧ Below w.heap.size w w' := by
  obtain ⟨ii, hii, hy0, hy1, hy2⟩ := info_parts infoInt
  have HII := hide hii
  have HY0 := hide hy0
  have HY1 := hide hy1
  have HY2 := hide hy2
  have H := hide h
  have HR := hide hR
  have hpos := hR.pos j hj
  have hf := Rn.fst_kept hR hj
  rw [h.len] at hf
  have hml : (Rn.rn rs j).length ≤ 2000 := by
    have h1 := Rn.mem_len (Rn.rn_mem hj)
    rw [hR.flat] at h1
    have h2 := List.length_filter_le (Rn.kp lv) (List.range lv.length)
    rw [List.length_range] at h2
    have h3 := h.len
    omega
  have HKE := hide (fun m (hm : m < (Rn.rn rs j).length) => (show (Rn.rn rs j).getD m 0 < n ∧ lv.getD ((Rn.rn rs j).getD m 0) 0 = lv.getD (Rn.fst rs j) 0 ∧ 0 ≤ lv.getD ((Rn.rn rs j).getD m 0) 0 from by
    have := hR.kept j m hj hm
    rw [h.len] at this
    exact ⟨this.1, this.2.2, kp_true this.2.1⟩))
  have HNX := hide (fun (W : World) (hb : Below w.heap.size w W) m (hm : m + 1 < (Rn.rn rs j).length) => nb_up_some (h.below hb) hn (hR.inner j m hj hm).1 ((HKE.out (m + 1) hm).1) ((HKE.out (m + 1) hm).2.2) (fun z h1 h2 => kp_false ((hR.inner j m hj hm).2 z h1 h2)))
  have HLA : Hid (∀ (W : World), Below w.heap.size w W → (j + 1 < rs.length ∧ Rn.fst rs (j + 1) < n ∧ ¬ lv.getD (Rn.fst rs (j + 1)) 0 = lv.getD (Rn.fst rs j) 0 ∧ Calls Try.prog 36 #[.slice ao n cap, .int .i64 (Rn.lst rs j : Int), .int .i64 1] W (fun e w' => e = .returned (.int .i64 (Rn.fst rs (j + 1) : Int)) ∧ W = w')) ∨ Calls Try.prog 36 #[.slice ao n cap, .int .i64 (Rn.lst rs j : Int), .int .i64 1] W (fun e w' => e = .returned (.int .i64 (-1)) ∧ W = w')) := hide fun W hb => by
    by_cases hjl : j + 1 < rs.length
    · obtain ⟨⟨a1, a2⟩, a3⟩ := hR.outer j hjl
      have hf2 := Rn.fst_kept hR hjl
      rw [h.len] at hf2
      exact .inl ⟨hjl, hf2.1, fun e => a3 e.symm, nb_up_some (h.below hb) hn a1 hf2.1 (kp_true hf2.2) (fun z h1 h2 => kp_false (a2 z h1 h2))⟩
    · have hl := (Rn.lst_kept hR hj).1
      rw [h.len] at hl
      have hq : rs.length - 1 = j := by omega
      exact .inr (nb_up_none (h.below hb) hn hl (fun z h1 h2 => kp_false (hR.after (by omega) z (by rw [hq]; exact h1) (by rw [h.len]; exact h2))))
  have HFE := hide (show (Rn.rn rs j).getD 0 0 = Rn.fst rs j from rfl)
  have HLE := hide (show (Rn.rn rs j).getD ((Rn.rn rs j).length - 1) 0 = Rn.lst rs j from rfl)
  obtain ⟨b, off, rfl, hbl, hc⟩ := h.cells (by omega)
  have cf := hc (Rn.fst rs j) (by rw [h.len]; exact hf.1)
  have hfn : (Rn.fst rs j : Int) < (n : Int) := by omega
  have HC := hide hc
  have HLn := hide h.len
  have HOW0 := hide (show (w.alloc (.cells #[.int .i64 (Rn.fst rs j : Int)] 3)).ownsRow w.heap.size 3 1 (.slice (some ⟨w.heap.size, 0, none⟩) 1 1) 1 ((Rn.zs ((Rn.rn rs j).take 1)).map (Value.int .i64)) from by
    have e : (Rn.rn rs j).take 1 = [Rn.fst rs j] := by
      have := Rn.split_at (Rn.rn rs j) 0 0 hpos
      rw [this]; simp [Rn.fst]
    rw [e]
    exact World.ownsRow_lit w #[.int .i64 (Rn.fst rs j : Int)] 1 (Nat.le_refl _) (by unfold maxLen; omega) rfl)
  generalize Rn.fst rs j = f at *
  generalize lv.getD f 0 = lf at *
  generalize hrr : Rn.rn rs j = r at *
  clear h hR hii hy0 hy1 hy2 hc hf hrr
  go_enter Try.func21, Try.ntmps21
  go_wp2
  go_loopw [5] (fun s5 wr => ∃ m : Nat, m < r.length ∧ Hid (wr.ownsRow w.heap.size 3 1 s5 (m + 1) ((Rn.zs (r.take (m + 1))).map (Value.int .i64)) ∧ Below w.heap.size w wr)) (fun s5 _ => match s5 with | .slice _ k _ => r.length - k | _ => 0)
  case atStart => exact ⟨0, hpos, hide ⟨HOW0.out, (Below.refl _ _).alloc (Nat.le_refl _) _⟩⟩
  case round =>
    obtain ⟨m, hm, hq⟩ := hrel
    obtain ⟨how, hbw⟩ := hq.out
    obtain ⟨g, cp, rfl, hgB, hcp⟩ := owns_pos how (by omega)
    have ct : wr.cell? ⟨g, m, none⟩ = some (.int .i64 (r.getD m 0 : Int)) := by
      have := owns_cell how m (by omega)
      rw [Rn.zs_at _ _ (by simp; omega)] at this
      rw [this]
      simp [List.getD]
    have cf2 := (hbw.cell (p := ⟨b, off + f, none⟩) (by exact hbl)).trans cf
    have em : ((m + 1 : Nat) : Int) - 1 = (m : Int) := by omega
    have hmm : (m : Int) < (m : Int) + 1 := by omega
    by_cases hml2 : m + 1 < r.length
    · have HN := hide (HNX.out wr hbw m hml2)
      obtain ⟨k1, k2, k3⟩ := HKE.out (m + 1) hml2
      have cn := (hbw.cell (p := ⟨b, off + r.getD (m + 1) 0, none⟩) (by exact hbl)).trans (HC.out (r.getD (m + 1) 0) (by rw [HLn.out]; exact k1))
      rw [k2] at cn
      have HTS := hide (show r.take (m + 1 + 1) = r.take (m + 1) ++ [r.getD (m + 1) 0] from by rw [List.take_succ_eq_append_getElem hml2]; simp [List.getD, hml2])
      generalize r.getD m 0 = x at *
      generalize r.getD (m + 1) 0 = y at *
      have gg : decide ((y : Int) < 0) = false := decide_eq_false (by omega)
      have gg1 : ¬ (y : Int) < 0 := by omega
      have hyn : (y : Int) < (n : Int) := by omega
      have HOW := hide (show ∀ q, (wr.drewN q).ownsRow w.heap.size 3 1 (.slice (some ⟨g, 0, none⟩) (m + 1) cp) (m + 1) ((Rn.zs (r.take (m + 1))).map (Value.int .i64)) from fun q => owns_below how (below_drewN wr q))
      have HBW := hide (show ∀ q, Below w.heap.size w (wr.drewN q) from fun q => KO.on hbw (below_drewN wr q))
      have hsz : w.heap.size ≤ wr.heap.size := hbw.size
      clear hq how hbw HNX HLA
      go_wp2_with (go_at_call 36; refine HN.out.mono ?_; rintro e w' ⟨rfl, rfl⟩)
      go_quiet (fail)
      go_wp2_with (at_builtin; refine wpList_append_own_at _ rfl (.tmp 31) (.tmp 33) 22 rfl w.heap.size 3 ii (.int .i64 0) 1 8 Try.underlying22 HII.out HY0.out HY1.out HY2.out rfl (by decide) (.slice (some ⟨g, 0, none⟩) (m + 1) cp) (m + 1) _ rfl ((HOW.out nq).alloc _) ⟨wr.heap.size, 0, none⟩ 1 1 [.int .i64 (y : Int)] rfl rfl (cell_one_new _ _ _) (ints_oneCell .i64 [(y : Int)]) (by unfold maxLen; omega) (by omega) (by simp; omega) ?_; intro v6 w6 ho6 hg6 _ _; obtain ⟨g6, c6, rfl, _, _⟩ := owns_pos ho6 (by omega))
      refine ⟨⟨m + 1, hml2, hide ⟨?_, grown_alloc (HBW.out nq) hsz hg6 (fun q hq => by simp [Value.ownBlock] at hq; omega)⟩⟩, ?_⟩
      · rw [HTS.out, Rn.zs_append, List.map_append]
        exact ho6
      · simp only
        omega
    · have hme : m + 1 = r.length := by omega
      have HOW := hide (show ∀ q, (wr.drewN q).ownsRow w.heap.size 3 1 (.slice (some ⟨g, 0, none⟩) (m + 1) cp) (m + 1) ((Rn.zs r).map (Value.int .i64)) from fun q => by
        have := owns_below how (below_drewN wr q)
        rw [hme, List.take_length] at this
        rw [← hme] at this
        exact this)
      have HBW := hide (show ∀ q, Below w.heap.size w (wr.drewN q) from fun q => KO.on hbw (below_drewN wr q))
      have hlst : Rn.lst rs j = r.getD m 0 := by rw [← HLE.out, ← hme, Nat.add_sub_cancel]
      have hla := HLA.out wr hbw
      rw [hlst] at hla
      have HRL := hide (show r.length = m + 1 from hme.symm)
      rcases hla with ⟨h1, h2, h3, h4⟩ | h4
      · have HN := hide h4
        have cn := (hbw.cell (p := ⟨b, off + Rn.fst rs (j + 1), none⟩) (by exact hbl)).trans (HC.out (Rn.fst rs (j + 1)) (by rw [HLn.out]; exact h2))
        generalize lv.getD (Rn.fst rs (j + 1)) 0 = ly at *
        generalize Rn.fst rs (j + 1) = y at *
        generalize r.getD m 0 = x at *
        have gg : decide ((y : Int) < 0) = false := decide_eq_false (by omega)
        have gg1 : ¬ (y : Int) < 0 := by omega
        have hyn : (y : Int) < (n : Int) := by omega
        have gg2 : (ly != lf) = true := bne_iff_ne.2 h3
        clear hq how hbw HNX HLA h4 hlst hme hml2
        go_wp2_with (go_at_call 36; refine HN.out.mono ?_; rintro e w' ⟨rfl, rfl⟩)
        go_quiet (fail)
        go_wp2
        go_ret
        have hq := HRL.out
        rw [hq]
        exact ⟨g, cp, rfl, HOW.out nq, HBW.out nq⟩
      · have HN := hide h4
        generalize r.getD m 0 = x at *
        clear hq how hbw HNX HLA h4 hlst hme hml2
        go_wp2_with (go_at_call 36; refine HN.out.mono ?_; rintro e w' ⟨rfl, rfl⟩)
        go_quiet (fail)
        go_wp2
        go_ret
        have hq := HRL.out
        rw [hq]
        exact ⟨g, cp, rfl, HOW.out nq, HBW.out nq⟩
end
end Go.Proofs.Ythohbiklnknofaa

/- The document's side, level, owned. -/
namespace Go.Proofs.Ythohbiklnknofaa
open Go.RowKit Go.Maps
set_option linter.unusedVariables false
set_option maxHeartbeats 1000000
set_option maxRecDepth 100000
theorem refside_any (x y : Int) (w : World) : Calls Try.prog 49 #[.int .i64 x, .int .i64 y] w fun e w' => e = .returned (.int .i64 (Rn.sd x y)) ∧ w = w' := by
  unfold Rn.sd
  by_cases hxy : x < y
  · rw [show max x y = y from Int.max_eq_right (by omega)]
    by_cases h : y.tmod 2 = 1
    · rw [if_pos h]
      have hb : (y.tmod 2 == 1) = true := by rw [h]; rfl
      clear h
      go_enter Try.func49, Try.ntmps49
      go_wp2
      go_ret
      exact ⟨rfl, rfl⟩
    · rw [if_neg h]
      have hb : (y.tmod 2 == 1) = false := beq_false_of_ne h
      clear h
      go_enter Try.func49, Try.ntmps49
      go_wp2
      go_ret
      exact ⟨rfl, rfl⟩
  · rw [show max x y = x from Int.max_eq_left (by omega)]
    by_cases h : x.tmod 2 = 1
    · rw [if_pos h]
      have hb : (x.tmod 2 == 1) = true := by rw [h]; rfl
      clear h
      go_enter Try.func49, Try.ntmps49
      go_wp2
      go_ret
      exact ⟨rfl, rfl⟩
    · rw [if_neg h]
      have hb : (x.tmod 2 == 1) = false := beq_false_of_ne h
      clear h
      go_enter Try.func49, Try.ntmps49
      go_wp2
      go_ret
      exact ⟨rfl, rfl⟩
theorem reflevel_no (ao : Option Addr) (n cap : Nat) (b : Int) (w : World) : Calls Try.prog 50 #[.slice ao n cap, .int .i64 (-1), .int .i64 b] w fun e w' => e = .returned (.int .i64 b) ∧ w = w' := by
  go_enter Try.func50, Try.ntmps50
  go_wp2
  go_ret
  exact ⟨rfl, rfl⟩
theorem reflevel_at {ao : Option Addr} {n cap : Nat} {lv : List Int} {w : World} (h : Row .i64 w ao n cap lv) {i : Nat} (hi : i < n) (b : Int) : Calls Try.prog 50 #[.slice ao n cap, .int .i64 (i : Int), .int .i64 b] w fun e w' => e = .returned (.int .i64 (lv.getD i 0)) ∧ w = w' := by
  obtain ⟨bb, off, rfl, hbl, hc⟩ := h.cells (by omega)
  have ci := hc i (by rw [h.len]; exact hi)
  have hin : (i : Int) < (n : Int) := by omega
  have gg : ¬ (i : Int) < 0 := by omega
  generalize lv.getD i 0 = x at *
  clear h hc
  go_enter Try.func50, Try.ntmps50
  go_wp2
  go_ret
  exact ⟨rfl, rfl⟩
theorem refowned_any {ao : Option Addr} {n cap : Nat} {c : List Int} {w : World} (h : Row .i64 w ao n cap c) (hn : n ≤ 300) {i : Nat} (hi : i < n) (B : Bool) (hB : B = true ↔ ∃ k, k < i ∧ Iso.st (c.getD k 0) = true ∧ Iso.partner c k = i) :
    Calls Try.prog 26 #[.slice ao n cap, .int .i64 (i : Int)] w fun e w' => e = .returned (.bool B) ∧ w = w' := by
  have HP := hide (fun k (hk : k < n) => partner_any ao n cap c k w h (by omega) hk)
  have HS := hide (fun x => Starts_any x w)
  have HB := hide hB
  have hlen := h.len
  have HL := hide hlen
  obtain ⟨bb, off, rfl, hbl, hc⟩ := h.cells (by omega)
  have ci := hc i (by rw [hlen]; exact hi)
  have HC := hide hc
  have hin : (i : Int) < (n : Int) := by omega
  by_cases h23 : c.getD i 0 = 23
  · rw [h23] at ci
    clear h hc hB hlen
    go_enter Try.func26, Try.ntmps26
    go_wp2
    go_loopw [5] (fun s5 wr => ∃ k : Nat, k ≤ i ∧ s5 = .int .i64 (k : Int) ∧ Hid (∀ k', k' < k → ¬ (Iso.st (c.getD k' 0) = true ∧ Iso.partner c k' = i)) ∧ w = wr) (fun s5 _ => i - (intOf s5).toNat)
    case atStart => exact ⟨0, Nat.zero_le _, rfl, hide (fun k' h => by omega), rfl⟩
    case round =>
      obtain ⟨k, hk, rfl, hq, rfl⟩ := hrel
      by_cases hki : k < i
      · have ck := HC.out k (by rw [HL.out]; omega)
        have hki2 : (k : Int) < (i : Int) := by omega
        have hkn : (k : Int) < (n : Int) := by omega
        have HPk := hide (HP.out k (by omega))
        have HSk := hide (HS.out (c.getD k 0))
        have HST := hide (fun (hs : ¬ (Iso.st (c.getD k 0) = true ∧ Iso.partner c k = i)) => (show ∀ k', k' < k + 1 → ¬ (Iso.st (c.getD k' 0) = true ∧ Iso.partner c k' = i) from fun k' hk' => by
          by_cases e : k' = k
          · subst e; exact hs
          · exact hq.out k' (by omega)))
        cases hs : Iso.st (c.getD k 0) with
        | false =>
          rw [hs] at HSk
          have HE := hide (HST.out (by rw [hs]; simp))
          generalize c.getD k 0 = x at *
          clear hq HST hs
          go_wp2_with (go_at_call 47; refine HSk.out.mono ?_; rintro e w' ⟨rfl, rfl⟩)
          exact ⟨⟨k + 1, by omega, by go_num, HE, trivial⟩, by simp [intOf]; omega⟩
        | true =>
          rw [hs] at HSk
          by_cases hp : Iso.partner c k = i
          · have hBt : B = true := HB.out.2 ⟨k, hki, hs, hp⟩
            subst hBt
            rw [hp] at HPk
            generalize c.getD k 0 = x at *
            clear hq HST hs hp
            go_wp2_with (first
              | (go_at_call 47; refine HSk.out.mono ?_; rintro e w' ⟨rfl, rfl⟩)
              | (go_at_call 48; refine HPk.out.mono ?_; rintro e w' ⟨rfl, rfl⟩))
            go_ret
            exact ⟨rfl, rfl⟩
          · have HE := hide (HST.out (fun q => hp q.2))
            generalize c.getD k 0 = x at *
            generalize Iso.partner c k = p at *
            have gp : ((p : Int) == (i : Int)) = false := beq_false_of_ne (by omega)
            have gp2 : ¬ (p : Int) = (i : Int) := by omega
            clear hq HST hs
            go_wp2_with (first
              | (go_at_call 47; refine HSk.out.mono ?_; rintro e w' ⟨rfl, rfl⟩)
              | (go_at_call 48; refine HPk.out.mono ?_; rintro e w' ⟨rfl, rfl⟩))
            exact ⟨⟨k + 1, by omega, by go_num, HE, trivial⟩, by simp [intOf]; omega⟩
      · obtain rfl : k = i := by omega
        have hBf : B = false := by
          cases hb : B with
          | false => rfl
          | true => obtain ⟨k', h1, h2, h3⟩ := HB.out.1 hb; exact absurd ⟨h2, h3⟩ (hq.out k' h1)
        subst hBf
        have hne : ¬ ((k : Int) < (k : Int)) := by omega
        clear hq
        go_wp2
        go_ret
        exact ⟨rfl, rfl⟩
  · have hBf : B = false := by
      cases hb : B with
      | false => rfl
      | true =>
        obtain ⟨k', h1, h2, h3⟩ := hB.1 hb
        have := (Iso.partner_pdi h2 (by rw [h3, hlen]; exact hi)).1
        rw [h3] at this
        exact absurd this h23
    subst hBf
    generalize c.getD i 0 = x at *
    have g23 : (x == 23) = false := beq_false_of_ne h23
    clear h hc hB hlen HB
    go_enter Try.func26, Try.ntmps26
    go_wp2
    refine wp_loop_rounds 1 ?_
    rw [rounds_succ]
    by_cases h0 : 0 < i
    · have h0' : (0 : Int) < (i : Int) := by omega
      go_wp2
      go_ret
      exact ⟨rfl, rfl⟩
    · have h0' : ¬ (0 : Int) < (i : Int) := by omega
      go_wp2
      go_ret
      exact ⟨rfl, rfl⟩
namespace Rn
theorem aft_ge {f : Nat → Option Nat} {N : Nat} (hf : ∀ k j, k < N → f k = some j → k < j ∧ j < N) : ∀ c k l, k < N → aft f c k = some l → k + c ≤ l ∧ l < N := by
  intro c
  induction c with
  | zero => intro k l hk h; simp [aft] at h; omega
  | succ c ih =>
    intro k l hk h
    rw [aft_succ] at h
    cases hq : f k with
    | none => rw [hq] at h; simp at h
    | some j =>
      rw [hq] at h
      obtain ⟨h1, h2⟩ := hf k j hk hq
      have := ih j l h2 h
      omega
/-- One run more. -/
theorem chn_more {f : Nat → Option Nat} {t k l j : Nat} (ht : aft f t k = some l) (hj : f l = some j) : chn f (t + 1 + 1) k = chn f (t + 1) k ++ [j] ∧ aft f (t + 1) k = some j := by
  have h1 : aft f (t + 1) k = some j := by rw [aft_add, ht]; simp [aft, hj]
  refine ⟨?_, h1⟩
  rw [chn_add f 1 (t + 1) k, h1]
  simp only [chn]
  cases f j <;> rfl
theorem chn_stop {f : Nat → Option Nat} {t k l c : Nat} (ht : aft f t k = some l) (hj : f l = none) (hc : t + 1 ≤ c) : chn f c k = chn f (t + 1) k ∧ ltc f c k = l := by
  have h1 : aft f (t + 1) k = none := by rw [aft_add, ht]; simp [aft, hj]
  obtain ⟨d, rfl⟩ : ∃ d, c = t + 1 + d := ⟨c - (t + 1), by omega⟩
  obtain ⟨e1, _, e3⟩ := ltc_none (b := d) h1
  refine ⟨e1, ?_⟩
  rw [e3]
  have h2 := ltc_some (b := 1) ht (by omega)
  rw [h2.2.2]
  unfold ltc
  simp [chn, hj]
end Rn
end Go.Proofs.Ythohbiklnknofaa
