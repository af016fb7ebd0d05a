import Derived.Test.YtmdmehopefgndaaGreatDoorZ06
import Derived.Test.YtmdmehopefgndaaGreatDoorZ13
/- Isolating run sequences: plain mathematics. -/
namespace Go.Proofs.YtmdmehopefgndaaGreatDoor.Rn
set_option linter.unusedVariables false
open Ex (lev LV rm Formed)
/-- Within an isolate. -/
theorem in_at (s : Ex.St) {c : List Int} {i : Nat} (h : Iso.st (c.getD i 0) = true) {o : Bool} (ho : Ex.wo (c.getD i 0) (c.drop (i + 1)) = o) : ∀ m, i + 1 + m ≤ Iso.partner c i → ∃ d, (Iso.stk c (i + 1 + m)).length = (Iso.stk c i).length + 1 + d ∧ Ex.In (Ex.at' s c i) ⟨Ex.nl (Ex.hd (Ex.at' s c i).st).lv o, 0, true⟩ (Ex.can (Ex.at' s c i) o) (Ex.at' s c (i + 1 + m)) d := by
  have hbeg : Ex.at' s c (i + 1) = Ex.iso (Ex.at' s c i) o := by rw [Ex.at_succ, Ex.step, if_pos h, ho]
  intro m
  induction m with
  | zero => intro _; exact ⟨0, by rw [Nat.add_zero, Iso.stk_init c i h]; simp, by rw [Nat.add_zero, hbeg]; exact Ex.In.begin _ _⟩
  | succ m ih =>
    intro hm
    obtain ⟨d, h1, h2⟩ := ih (by omega)
    obtain ⟨l', g1, _⟩ := Iso.stk_mid h (j := i + 1 + (m + 1)) (by omega) hm
    have g2 : (Iso.stk c (i + 1 + (m + 1))).length ≥ (Iso.stk c i).length + 1 := by rw [g1]; simp
    have hnx := Iso.stk_nx c (i + 1 + m)
    rw [show i + 1 + (m + 1) = i + 1 + m + 1 from by omega] at g2 ⊢
    rw [Ex.at_succ]
    rw [h1] at hnx
    by_cases hs : Iso.st (c.getD (i + 1 + m) 0) = true
    · refine ⟨d + 1, ?_, ?_⟩
      · rw [hnx, Iso.nx, if_pos hs]; omega
      · rw [Ex.step, if_pos hs]; exact h2.iso _
    · rw [Ex.step, if_neg hs]
      by_cases hx : c.getD (i + 1 + m) 0 = 23
      · rw [Iso.nx, if_neg hs, if_pos hx] at hnx
        obtain ⟨d', rfl⟩ : ∃ d', d = d' + 1 := ⟨d - 1, by omega⟩
        refine ⟨d', by omega, ?_⟩
        rw [hx]
        exact h2.pdi
      · rw [Iso.nx, if_neg hs, if_neg hx] at hnx
        exact ⟨d, by omega, h2.mid rfl _ hx⟩
theorem chain_ge {b : Int} {e0 : Ex.Ent} {T : List Ex.Ent} : ∀ E : List Ex.Ent, Ex.Chain b (E ++ e0 :: T) → e0.lv ≤ (Ex.hd (E ++ e0 :: T)).lv := by
  intro E
  induction E with
  | nil => intro _; exact Int.le_refl _
  | cons e r ih =>
    intro h
    cases hE : r ++ e0 :: T with
    | nil => simp at hE
    | cons x y =>
      rw [List.cons_append, hE] at h
      cases h with
      | cons _ _ h1 h2 _ _ _ =>
        have := ih (by rw [hE]; exact h1)
        rw [hE] at this
        rw [List.cons_append]
        simp only [Ex.hd] at *
        omega
theorem lev_st {b : Int} {s : Ex.St} {c : List Int} {i : Nat} (h : Iso.st (c.getD i 0) = true) : lev b s c i = (Ex.hd (Ex.at' s c i).st).lv := by
  obtain ⟨k1, k2, _⟩ := Ex.st_kept h
  unfold Ex.lev
  rw [Ex.mid_st h, (Ex.tl_kept k1 k2).1]
/-- What lies in an isolate has its initiator's level, or a greater one. -/
theorem inside {b : Int} {c : List Int} (hF : Formed c) {i : Nat} (h : Iso.st (c.getD i 0) = true) (hn : Iso.partner c i < c.length) :
    (∀ k, i < k → k < Iso.partner c i → rm (c.getD k 0) = false → lev b (Ex.s0 b) c k = lev b (Ex.s0 b) c i) ∨ (∀ k, i < k → k < Iso.partner c i → rm (c.getD k 0) = false → lev b (Ex.s0 b) c i < lev b (Ex.s0 b) c k) := by
  obtain ⟨o, ho⟩ : ∃ o, Ex.wo (c.getD i 0) (c.drop (i + 1)) = o := ⟨_, rfl⟩
  have key : ∀ k, i < k → k < Iso.partner c i → rm (c.getD k 0) = false → lev b (Ex.s0 b) c k = (Ex.hd (Ex.mid (Ex.at' (Ex.s0 b) c k) (c.getD k 0)).st).lv ∧ ∃ d, Ex.In (Ex.at' (Ex.s0 b) c i) ⟨Ex.nl (Ex.hd (Ex.at' (Ex.s0 b) c i).st).lv o, 0, true⟩ (Ex.can (Ex.at' (Ex.s0 b) c i) o) (Ex.mid (Ex.at' (Ex.s0 b) c k) (c.getD k 0)) d := by
    intro k h1 h2 h3
    have hx : ¬ c.getD k 0 = 11 := fun e => by have := (hF k (by omega)).2.2 e; omega
    refine ⟨by unfold Ex.lev; rw [(Ex.tl_kept h3 hx).1], ?_⟩
    obtain ⟨m, rfl⟩ : ∃ m, k = i + 1 + m := ⟨k - (i + 1), by omega⟩
    obtain ⟨d, g1, g2⟩ := in_at (Ex.s0 b) h ho m (by omega)
    by_cases hp : c.getD (i + 1 + m) 0 = 23
    · obtain ⟨l', q1, _⟩ := Iso.stk_mid h (j := i + 1 + m + 1) (by omega) (by omega)
      have q2 : (Iso.stk c (i + 1 + m + 1)).length ≥ (Iso.stk c i).length + 1 := by rw [q1]; simp
      have hnx := Iso.stk_nx c (i + 1 + m)
      rw [hp, Iso.nx, if_neg (by decide), if_pos rfl] at hnx
      obtain ⟨d', rfl⟩ : ∃ d', d = d' + 1 := ⟨d - 1, by omega⟩
      refine ⟨d', ?_⟩
      rw [hp]
      exact g2.pdi
    · exact ⟨d, g2.mid rfl _ hp⟩
  have hi := lev_st (b := b) (s := Ex.s0 b) h
  cases hv : Ex.can (Ex.at' (Ex.s0 b) c i) o with
  | true =>
    refine .inr fun k h1 h2 h3 => ?_
    obtain ⟨e1, d, e2⟩ := key k h1 h2 h3
    rw [hv] at e2
    rcases e2 with ⟨_, E, q1, _, _⟩ | ⟨q, _⟩
    · have hok := (Ex.Ok.at (b := b) c k).mid (c.getD k 0)
      have hch := hok.ch
      rw [e1, hi]
      rw [q1] at hch ⊢
      have := chain_ge E hch
      have h4 := (Ex.nl_gt (Ex.hd (Ex.at' (Ex.s0 b) c i).st).lv o).1
      simp only at this
      omega
    · cases q
  | false =>
    refine .inl fun k h1 h2 h3 => ?_
    obtain ⟨e1, d, e2⟩ := key k h1 h2 h3
    rw [hv] at e2
    rcases e2 with ⟨q, _⟩ | ⟨_, q⟩
    · cases q
    · rw [e1, hi, q]
theorem lev_keep {b : Int} (hb : b = 0 ∨ b = 1) {c : List Int} {k : Nat} (h : rm (c.getD k 0) = false) : b ≤ lev b (Ex.s0 b) c k := by
  have hok := (Ex.Ok.at (b := b) c k).mid (c.getD k 0)
  have h1 := hok.ch.lo
  unfold Ex.lev Ex.tl
  rw [if_neg (by rw [h]; decide)]
  split
  · exact Int.le_refl _
  · exact h1
theorem lev_gone {b : Int} {c : List Int} {k : Nat} (h : rm (c.getD k 0) = true) : lev b (Ex.s0 b) c k = -1 := by
  unfold Ex.lev Ex.tl
  rw [if_pos h]
theorem kp_rm {b : Int} (hb : b = 0 ∨ b = 1) {c : List Int} {k : Nat} (hk : k < c.length) : kp (LV b c) k = !(rm (c.getD k 0)) := by
  unfold kp
  rw [Ex.LV_at b c k hk]
  cases h : rm (c.getD k 0) with
  | true => rw [lev_gone h]; rfl
  | false => have := lev_keep hb h; simp; omega
section
variable {lv : List Int} {rs : List (List Nat)}
theorem run_lt (h : Runs lv rs) {j : Nat} (hj : j < rs.length) : ∀ m' m, m < m' → m' < (rn rs j).length → (rn rs j).getD m 0 < (rn rs j).getD m' 0 := by
  intro m'
  induction m' with
  | zero => intro m hm; omega
  | succ m' ih =>
    intro m hm hl
    have h1 := (h.inner j m' hj hl).1
    by_cases hmm : m = m'
    · subst hmm; exact h1
    · have := ih m (by omega) (by omega); omega
theorem run_le (h : Runs lv rs) {j m : Nat} (hj : j < rs.length) (hm : m < (rn rs j).length) : fst rs j ≤ (rn rs j).getD m 0 ∧ (rn rs j).getD m 0 ≤ lst rs j := by
  constructor
  · by_cases h0 : m = 0
    · subst h0; exact Nat.le_refl _
    · exact Nat.le_of_lt (run_lt h hj m 0 (by omega) hm)
  · by_cases h0 : m = (rn rs j).length - 1
    · subst h0; exact Nat.le_refl _
    · exact Nat.le_of_lt (run_lt h hj ((rn rs j).length - 1) m (by omega) (by omega))
theorem lst_fst (h : Runs lv rs) : ∀ j i, i < j → j < rs.length → lst rs i < fst rs j := by
  intro j
  induction j with
  | zero => intro i hi; omega
  | succ j ih =>
    intro i hi hj
    have h1 := (h.outer j hj).1.1
    by_cases hij : i = j
    · subst hij; exact h1
    · have h2 := ih i (by omega) (by omega)
      have h3 := (run_le h (show j < rs.length by omega) (h.pos j (by omega))).2
      have e : (rn rs j).getD 0 0 = fst rs j := rfl
      omega
theorem loc_unique (h : Runs lv rs) {j j' m m' : Nat} (hj : j < rs.length) (hj' : j' < rs.length) (hm : m < (rn rs j).length) (hm' : m' < (rn rs j').length) (he : (rn rs j).getD m 0 = (rn rs j').getD m' 0) : j = j' ∧ m = m' := by
  have h1 := run_le h hj hm
  have h2 := run_le h hj' hm'
  by_cases q : j = j'
  · subst q
    refine ⟨rfl, ?_⟩
    by_cases q2 : m < m'
    · have := run_lt h hj m' m q2 hm'; omega
    · by_cases q3 : m' < m
      · have := run_lt h hj m m' q3 hm; omega
      · omega
  · by_cases q2 : j < j'
    · have := lst_fst h j' j q2 hj'; omega
    · have := lst_fst h j j' (by omega) hj; omega
theorem fi_found (h : Runs lv rs) {j : Nat} (hj : j < rs.length) : fi rs rs.length (fst rs j : Int) = some j := by
  cases hf : fi rs rs.length (fst rs j : Int) with
  | none => exact absurd rfl (fi_none hf j hj)
  | some i =>
    obtain ⟨h1, h2⟩ := fi_some hf
    have := (loc_unique h h1 hj (h.pos i h1) (h.pos j hj) (by have e : (rn rs i).getD 0 0 = fst rs i := rfl; have e' : (rn rs j).getD 0 0 = fst rs j := rfl; omega)).1
    rw [this]
theorem lst_kept (h : Runs lv rs) {j : Nat} (hj : j < rs.length) : lst rs j < lv.length ∧ kp lv (lst rs j) = true ∧ lv.getD (lst rs j) 0 = lv.getD (fst rs j) 0 := h.kept j ((rn rs j).length - 1) hj (by have := h.pos j hj; omega)
theorem fst_kept (h : Runs lv rs) {j : Nat} (hj : j < rs.length) : fst rs j < lv.length ∧ kp lv (fst rs j) = true := ⟨(h.kept j 0 hj (h.pos j hj)).1, (h.kept j 0 hj (h.pos j hj)).2.1⟩
end
section
variable {b : Int} {c : List Int}
/-- Where a run ends with an initiator that has a PDI, another one begins with this PDI. -/
theorem pdi_begins (hb : b = 0 ∨ b = 1) (hF : Formed c) {k : Nat} (hk : k < (RS (LV b c)).length) (hs : Iso.st (c.getD (lst (RS (LV b c)) k) 0) = true) (hp : Iso.partner c (lst (RS (LV b c)) k) < c.length) :
    ∃ j, j < (RS (LV b c)).length ∧ fst (RS (LV b c)) j = Iso.partner c (lst (RS (LV b c)) k) ∧ k < j := by
  have hR := runs_of (LV b c)
  have hlen := Ex.LV_len b c
  generalize RS (LV b c) = rs at *
  obtain ⟨l, hl⟩ : ∃ l, lst rs k = l := ⟨_, rfl⟩
  rw [hl] at hs hp ⊢
  have hlk := lst_kept hR hk
  rw [hl, hlen] at hlk
  have hgt := Iso.partner_gt c l
  obtain ⟨p1, _, _⟩ := Iso.partner_pdi hs hp
  have hpk : kp (LV b c) (Iso.partner c l) = true := by rw [kp_rm hb hp, p1]; rfl
  obtain ⟨hlp, _⟩ := Ex.lev_pair b (Ex.s0 b) hs hp
  have hins := inside (b := b) hF hs hp
  generalize Iso.partner c l = p at *
  obtain ⟨j, m, hj, hm, he⟩ := hR.cover p (by omega) hpk
  by_cases hm0 : m = 0
  · subst hm0
    have e : fst rs j = p := he
    refine ⟨j, hj, e, ?_⟩
    by_cases q : k < j
    · exact q
    · by_cases q2 : j = k
      · subst q2
        have := (run_le hR hj (hR.pos j hj)).2
        have e' : (rn rs j).getD 0 0 = fst rs j := rfl
        omega
      · have h1 := lst_fst hR k j (by omega) hk
        have h2 := (run_le hR hj (hR.pos j hj)).2
        have h3 := (run_le hR hk (hR.pos k hk)).2
        have e' : (rn rs j).getD 0 0 = fst rs j := rfl
        have e2 : (rn rs k).getD 0 0 = fst rs k := rfl
        omega
  · exfalso
    obtain ⟨m', rfl⟩ : ∃ m', m = m' + 1 := ⟨m - 1, by omega⟩
    have hadj := hR.inner j m' hj hm
    obtain ⟨q, hq⟩ : ∃ q, (rn rs j).getD m' 0 = q := ⟨_, rfl⟩
    rw [hq, he] at hadj
    have hqk := hR.kept j m' hj (by omega)
    have hpk2 := hR.kept j (m' + 1) hj hm
    rw [hq, hlen] at hqk
    rw [he] at hpk2
    have hlq : l ≤ q := by
      by_cases h1 : l ≤ q
      · exact h1
      · have := hadj.2 l (by omega) (by omega)
        rw [hlk.2.1] at this
        cases this
    by_cases hlq2 : l = q
    · obtain ⟨e1, e2⟩ := loc_unique hR hj hk (show m' < (rn rs j).length by omega) (show (rn rs k).length - 1 < (rn rs k).length by have := hR.pos k hk; omega) (by rw [hq, ← hlq2, ← hl]; rfl)
      subst e1
      omega
    · have hq1 : l < q := by omega
      have hq2 : q < p := hadj.1
      have hrq : rm (c.getD q 0) = false := by have := hqk.2.1; rw [kp_rm hb hqk.1] at this; simpa using this
      have e3 : lev b (Ex.s0 b) c q = lev b (Ex.s0 b) c l := by
        have h1 := hqk.2.2
        have h2 := hpk2.2.2
        rw [Ex.LV_at b c q hqk.1] at h1
        rw [Ex.LV_at b c p hp] at h2
        rw [h1, ← h2, hlp]
      have hkN : k + 1 < rs.length := by
        by_cases h1 : k + 1 < rs.length
        · exact h1
        · have := hR.after (by omega) q (by rw [show rs.length - 1 = k from by omega, hl]; exact hq1) (by omega)
          rw [hqk.2.1] at this
          cases this
      obtain ⟨⟨a1, a2⟩, a3⟩ := hR.outer k hkN
      rw [hl] at a1 a2
      have hf := fst_kept hR hkN
      rw [hlen] at hf
      have hfq : fst rs (k + 1) ≤ q := by
        by_cases h1 : fst rs (k + 1) ≤ q
        · exact h1
        · have := a2 q hq1 (by omega)
          rw [hqk.2.1] at this
          cases this
      have hrf : rm (c.getD (fst rs (k + 1)) 0) = false := by have := hf.2; rw [kp_rm hb hf.1] at this; simpa using this
      rcases hins with hI | hI
      · have := hI (fst rs (k + 1)) a1 (by omega) hrf
        have h3 := hlk.2.2
        rw [Ex.LV_at b c l hlk.1] at h3
        rw [Ex.LV_at b c _ hf.1, this, ← h3] at a3
        exact a3 rfl
      · have := hI q hq1 hq2 hrq
        omega
/-- An initiator whose PDI begins a run ends one. -/
theorem init_ends (hb : b = 0 ∨ b = 1) (hF : Formed c) {k i : Nat} (hk : k < (RS (LV b c)).length) (hs : Iso.st (c.getD i 0) = true) (hp : Iso.partner c i = fst (RS (LV b c)) k) :
    ∃ j, j < k ∧ lst (RS (LV b c)) j = i := by
  have hR := runs_of (LV b c)
  have hlen := Ex.LV_len b c
  generalize RS (LV b c) = rs at *
  have hfk := fst_kept hR hk
  rw [hlen] at hfk
  have hpl : Iso.partner c i < c.length := by rw [hp]; exact hfk.1
  have hgt := Iso.partner_gt c i
  have hik : kp (LV b c) i = true := by rw [kp_rm hb (by omega), (Ex.st_kept hs).1]; rfl
  obtain ⟨hlp, _⟩ := Ex.lev_pair b (Ex.s0 b) hs hpl
  have hins := inside (b := b) hF hs hpl
  rw [hp] at hgt hlp hins hpl
  obtain ⟨j, m, hj, hm, he⟩ := hR.cover i (by omega) hik
  have hjk : j < k := by
    have h1 := run_le hR hj hm
    by_cases q : j < k
    · exact q
    · by_cases q2 : j = k
      · subst q2; omega
      · have h2 := lst_fst hR j k (by omega) hj
        have h3 := (run_le hR hk (hR.pos k hk)).2
        have e' : (rn rs k).getD 0 0 = fst rs k := rfl
        omega
  refine ⟨j, hjk, ?_⟩
  by_cases hml : m + 1 = (rn rs j).length
  · unfold lst
    rw [show (rn rs j).length - 1 = m from by omega]
    exact he
  · exfalso
    have hm1 : m + 1 < (rn rs j).length := by omega
    have hadj := hR.inner j m hj hm1
    obtain ⟨q, hq⟩ : ∃ q, (rn rs j).getD (m + 1) 0 = q := ⟨_, rfl⟩
    rw [hq, he] at hadj
    have hqk := hR.kept j (m + 1) hj hm1
    have hik2 := hR.kept j m hj hm
    rw [hq, hlen] at hqk
    rw [he] at hik2
    have hqf : q ≤ fst rs k := by
      by_cases h1 : q ≤ fst rs k
      · exact h1
      · have := hadj.2 (fst rs k) hgt (by omega)
        rw [hfk.2] at this
        cases this
    by_cases hqf2 : q = fst rs k
    · obtain ⟨e1, e2⟩ := loc_unique hR hj hk hm1 (hR.pos k hk) (by rw [hq, hqf2]; rfl)
      omega
    · have hq2 : q < fst rs k := by omega
      have hrq : rm (c.getD q 0) = false := by have := hqk.2.1; rw [kp_rm hb hqk.1] at this; simpa using this
      have e3 : lev b (Ex.s0 b) c q = lev b (Ex.s0 b) c i := by
        have h1 := hqk.2.2
        have h2 := hik2.2.2
        rw [Ex.LV_at b c q hqk.1] at h1
        rw [Ex.LV_at b c i (by omega)] at h2
        rw [h1, ← h2]
      obtain ⟨k', rfl⟩ : ∃ k', k = k' + 1 := ⟨k - 1, by omega⟩
      obtain ⟨⟨a1, a2⟩, a3⟩ := hR.outer k' hk
      have hl := lst_kept hR (show k' < rs.length by omega)
      rw [hlen] at hl
      have hlq : q ≤ lst rs k' := by
        by_cases h1 : q ≤ lst rs k'
        · exact h1
        · have := a2 q (by omega) hq2
          rw [hqk.2.1] at this
          cases this
      have hrl : rm (c.getD (lst rs k') 0) = false := by have := hl.2.1; rw [kp_rm hb hl.1] at this; simpa using this
      have hiq := hadj.1
      rcases hins with hI | hI
      · have := hI (lst rs k') (by omega) a1 hrl
        have h3 := hl.2.2
        rw [Ex.LV_at b c _ hl.1] at h3
        rw [← h3, Ex.LV_at b c _ hfk.1, this, hlp] at a3
        exact a3 rfl
      · have := hI q hiq hq2 hrq
        omega
theorem mt_st {i : Nat} (h : Iso.st (c.getD i 0) = true) : Iso.mt c i = (Iso.partner c i : Int) := by unfold Iso.mt; rw [if_pos h]
/-- Does a run end with an initiator? -/
theorem en_iff {rs : List (List Nat)} {k : Nat} (hk : lst rs k < c.length) : en (Iso.MT c) rs k = Iso.st (c.getD (lst rs k) 0) := by
  unfold en
  rw [Iso.MT_at c _ hk]
  cases h : Iso.st (c.getD (lst rs k) 0) with
  | true => rw [mt_st h]; have := Iso.partner_gt c (lst rs k); simp; omega
  | false =>
    unfold Iso.mt
    rw [if_neg (by rw [h]; decide)]
    have h2 := Iso.hd_range c (lst rs k)
    split
    · simp; omega
    · simp
theorem fo_some (hb : b = 0 ∨ b = 1) (hF : Formed c) {k j : Nat} (hk : k < (RS (LV b c)).length) (h : fo (Iso.MT c) (RS (LV b c)) k = some j) :
    k < j ∧ j < (RS (LV b c)).length ∧ Iso.st (c.getD (lst (RS (LV b c)) k) 0) = true ∧ Iso.partner c (lst (RS (LV b c)) k) = fst (RS (LV b c)) j ∧ Iso.partner c (lst (RS (LV b c)) k) < c.length := by
  have hR := runs_of (LV b c)
  have hlk := lst_kept hR hk
  rw [Ex.LV_len] at hlk
  unfold fo at h
  rw [en_iff hlk.1] at h
  split at h
  · rename_i hs
    obtain ⟨h1, h2⟩ := fi_some h
    rw [Iso.MT_at c _ hlk.1, mt_st hs] at h2
    have hf := fst_kept hR h1
    rw [Ex.LV_len] at hf
    have hp : Iso.partner c (lst (RS (LV b c)) k) < c.length := by omega
    obtain ⟨j', h3, h4, h5⟩ := pdi_begins hb hF hk hs hp
    have := (loc_unique hR h1 h3 (hR.pos j h1) (hR.pos j' h3) (by have e : (rn (RS (LV b c)) j).getD 0 0 = fst (RS (LV b c)) j := rfl; have e' : (rn (RS (LV b c)) j').getD 0 0 = fst (RS (LV b c)) j' := rfl; omega)).1
    subst this
    exact ⟨h5, h1, hs, by omega, hp⟩
  · cases h
theorem fo_none (hb : b = 0 ∨ b = 1) (hF : Formed c) {k : Nat} (hk : k < (RS (LV b c)).length) (h : fo (Iso.MT c) (RS (LV b c)) k = none) (hs : Iso.st (c.getD (lst (RS (LV b c)) k) 0) = true) : Iso.partner c (lst (RS (LV b c)) k) = c.length := by
  have hR := runs_of (LV b c)
  have hlk := lst_kept hR hk
  rw [Ex.LV_len] at hlk
  have hle := Iso.partner_le c _ hlk.1
  by_cases hp : Iso.partner c (lst (RS (LV b c)) k) < c.length
  · exfalso
    obtain ⟨j, h3, h4, h5⟩ := pdi_begins hb hF hk hs hp
    unfold fo at h
    rw [en_iff hlk.1, if_pos hs, Iso.MT_at c _ hlk.1, mt_st hs, ← h4, fi_found hR h3] at h
    cases h
  · omega
/-- A run begins a sequence, if its first place is no PDI that an initiator has. -/
theorem bg_iff {rs : List (List Nat)} {k : Nat} (hk : fst rs k < c.length) : bg (Iso.MT c) rs k = false ↔ ∃ i, i < fst rs k ∧ Iso.st (c.getD i 0) = true ∧ Iso.partner c i = fst rs k := by
  unfold bg
  rw [Iso.MT_at c _ hk]
  constructor
  · intro h
    simp only [Bool.or_eq_false_iff, decide_eq_false_iff_not] at h
    obtain ⟨h1, h2⟩ := h
    by_cases hs : Iso.st (c.getD (fst rs k) 0) = true
    · rw [mt_st hs] at h2
      have := Iso.partner_gt c (fst rs k)
      omega
    · by_cases hx : c.getD (fst rs k) 0 = 23
      · rcases Iso.mt_pdi hk hx with ⟨q, _⟩ | ⟨i, q1, q2, q3, q4⟩
        · omega
        · rw [mt_st q3] at q4
          exact ⟨i, q2, q3, by omega⟩
      · unfold Iso.mt at h2
        rw [if_neg hs, if_neg hx] at h2
        omega
  · rintro ⟨i, h1, h2, h3⟩
    have := Iso.mt_pair h2 (by rw [h3]; exact hk)
    rw [h3] at this
    rw [this]
    simp
    omega
theorem bg_pred (hb : b = 0 ∨ b = 1) (hF : Formed c) {k : Nat} (hk : k < (RS (LV b c)).length) (h : bg (Iso.MT c) (RS (LV b c)) k = false) : ∃ j, j < k ∧ fo (Iso.MT c) (RS (LV b c)) j = some k := by
  have hR := runs_of (LV b c)
  have hf := fst_kept hR hk
  rw [Ex.LV_len] at hf
  obtain ⟨i, h1, h2, h3⟩ := (bg_iff hf.1).1 h
  obtain ⟨j, h4, h5⟩ := init_ends hb hF hk h2 h3
  refine ⟨j, h4, ?_⟩
  unfold fo
  have hl : lst (RS (LV b c)) j < c.length := by rw [h5]; omega
  rw [en_iff hl, h5, if_pos h2, Iso.MT_at c i (by omega), mt_st h2, h3]
  exact fi_found hR hk
theorem fo_not_bg (hb : b = 0 ∨ b = 1) (hF : Formed c) {k j : Nat} (hk : k < (RS (LV b c)).length) (h : fo (Iso.MT c) (RS (LV b c)) k = some j) : bg (Iso.MT c) (RS (LV b c)) j = false := by
  obtain ⟨h1, h2, h3, h4, h5⟩ := fo_some hb hF hk h
  have hg := Iso.partner_gt c (lst (RS (LV b c)) k)
  exact (bg_iff (by omega)).2 ⟨_, by omega, h3, h4⟩
theorem fo_inj (hb : b = 0 ∨ b = 1) (hF : Formed c) {k k' j : Nat} (hk : k < (RS (LV b c)).length) (hk' : k' < (RS (LV b c)).length) (h : fo (Iso.MT c) (RS (LV b c)) k = some j) (h' : fo (Iso.MT c) (RS (LV b c)) k' = some j) : k = k' := by
  have hR := runs_of (LV b c)
  obtain ⟨h1, h2, h3, h4, h5⟩ := fo_some hb hF hk h
  obtain ⟨g1, g2, g3, g4, g5⟩ := fo_some hb hF hk' h'
  have e1 := Iso.mt_pair h3 h5
  have e2 := Iso.mt_pair g3 g5
  rw [h4] at e1
  rw [g4, e1] at e2
  have e3 : lst (RS (LV b c)) k = lst (RS (LV b c)) k' := by omega
  exact (loc_unique hR hk hk' (show (rn (RS (LV b c)) k).length - 1 < _ by have := hR.pos k hk; omega) (show (rn (RS (LV b c)) k').length - 1 < _ by have := hR.pos k' hk'; omega) e3).1
theorem fo_lvl (hb : b = 0 ∨ b = 1) (hF : Formed c) {k j : Nat} (hk : k < (RS (LV b c)).length) (h : fo (Iso.MT c) (RS (LV b c)) k = some j) : lvl (LV b c) (RS (LV b c)) j = lvl (LV b c) (RS (LV b c)) k := by
  have hR := runs_of (LV b c)
  obtain ⟨h1, h2, h3, h4, h5⟩ := fo_some hb hF hk h
  have hlk := lst_kept hR hk
  obtain ⟨hlp, _⟩ := Ex.lev_pair b (Ex.s0 b) h3 h5
  unfold lvl
  rw [← hlk.2.2]
  rw [Ex.LV_len] at hlk
  rw [← h4, Ex.LV_at b c _ h5, Ex.LV_at b c _ hlk.1, hlp]
end
end Go.Proofs.YtmdmehopefgndaaGreatDoor.Rn

/- Sides of sequences, plain paragraphs: plain mathematics. -/
namespace Go.Proofs.YtmdmehopefgndaaGreatDoor
open Go.RowKit Go.Maps
set_option linter.unusedVariables false
set_option maxHeartbeats 1000000
set_option maxRecDepth 100000
namespace Rn
def kc (c : List Int) (k : Nat) : Nat := ((List.range k).filter fun i => !(Ex.rm (c.getD i 0))).length
theorem kc_succ (c : List Int) (k : Nat) : kc c (k + 1) = kc c k + if Ex.rm (c.getD k 0) then 0 else 1 := by
  unfold kc
  rw [List.range_succ, List.filter_append, List.length_append]
  cases h : Ex.rm (c.getD k 0) <;> (simp only [List.filter_cons, List.filter_nil, h]; rfl)
theorem kc_le (c : List Int) (k : Nat) : kc c k ≤ k := Nat.le_trans (List.length_filter_le _ _) (by simp)
theorem sd_two (a b : Int) : sd a b = 1 ∨ sd a b = 2 := by unfold sd; split <;> simp
theorem sqs_mem {b : Int} {lv mt : List Int} {rs : List (List Nat)} {j : Nat} (h : j < (sqs b lv mt rs rs.length).length) : ∃ k, k < rs.length ∧ bg mt rs k = true ∧ (sqs b lv mt rs rs.length).getD j default = sq b lv mt rs k := by
  have h1 : (sqs b lv mt rs rs.length).getD j default ∈ sqs b lv mt rs rs.length := by
    rw [show (sqs b lv mt rs rs.length).getD j default = (sqs b lv mt rs rs.length)[j] from by simp [List.getD, h]]
    exact List.getElem_mem h
  unfold sqs at h1
  obtain ⟨k, h2, h3⟩ := List.mem_map.1 h1
  obtain ⟨h4, h5⟩ := List.mem_filter.1 h2
  exact ⟨k, List.mem_range.1 h4, h5, h3.symm⟩
theorem sq_side {b : Int} (hb : b = 0 ∨ b = 1) {c : List Int} {j : Nat} (h : j < (sqs b (Ex.LV b c) (Iso.MT c) (RS (Ex.LV b c)) (RS (Ex.LV b c)).length).length) :
    ∃ s, (sqs b (Ex.LV b c) (Iso.MT c) (RS (Ex.LV b c)) (RS (Ex.LV b c)).length).getD j default = s ∧ (s.sos = 1 ∨ s.sos = 2) ∧ (s.eos = 1 ∨ s.eos = 2) ∧ b ≤ s.lvl := by
  obtain ⟨k, h1, h2, h3⟩ := sqs_mem h
  refine ⟨_, rfl, ?_⟩
  rw [h3]
  refine ⟨sd_two _ _, sd_two _ _, ?_⟩
  have hf := fst_kept (runs_of (Ex.LV b c)) h1
  rw [Ex.LV_len] at hf
  have hr : Ex.rm (c.getD (fst (RS (Ex.LV b c)) k) 0) = false := by have := hf.2; rw [kp_rm hb hf.1] at this; simpa using this
  show b ≤ lvl (Ex.LV b c) (RS (Ex.LV b c)) k
  unfold lvl
  rw [Ex.LV_at b c _ hf.1]
  exact lev_keep hb hr
theorem kept_len {b : Int} (hb : b = 0 ∨ b = 1) (c : List Int) : (RS (Ex.LV b c)).flatten.length = kc c c.length := by
  rw [(runs_of (Ex.LV b c)).flat, Ex.LV_len]
  unfold kc
  congr 1
  apply List.filter_congr
  intro i hi
  exact kp_rm hb (List.mem_range.1 hi)
theorem pl_no {c : List Int} : ∀ k, Ex.pl c k = true → ∀ i, i < k → Iso.st (c.getD i 0) = false := by
  intro k
  induction k with
  | zero => intro _ i hi; omega
  | succ k ih =>
    intro h i hi
    simp only [Ex.pl, Bool.and_eq_true, Bool.not_eq_true'] at h
    by_cases hik : i = k
    · subst hik; exact h.2
    · exact ih h.1.1 i (by omega)
/-- Of a plain paragraph there is one sequence, or none. -/
theorem plain {b : Int} (hb : b = 0 ∨ b = 1) {c : List Int} (hF : Ex.Formed c) (hp : Ex.pl c c.length = true) :
    (kc c c.length = 0 ∧ sqs b (Ex.LV b c) (Iso.MT c) (RS (Ex.LV b c)) (RS (Ex.LV b c)).length = []) ∨ (0 < kc c c.length ∧ ∃ ps, sqs b (Ex.LV b c) (Iso.MT c) (RS (Ex.LV b c)) (RS (Ex.LV b c)).length = [⟨ps, b, 1 + b, 1 + b⟩] ∧ ps.length = kc c c.length) := by
  have hR := runs_of (Ex.LV b c)
  have hkl := kept_len hb c
  have hlv : ∀ k, k < (RS (Ex.LV b c)).length → lvl (Ex.LV b c) (RS (Ex.LV b c)) k = b := by
    intro k hk
    have hf := fst_kept hR hk
    have h1 := hf.2
    unfold kp at h1
    rw [Ex.LV_len] at hf
    rw [Ex.LV_at b c _ hf.1] at h1
    unfold lvl
    rw [Ex.LV_at b c _ hf.1]
    rcases (Ex.pl_lev (b := b) hp hf.1).1 with h2 | h2
    · exact h2
    · rw [h2] at h1; simp at h1
  have hN : (RS (Ex.LV b c)).length ≤ 1 := by
    by_cases h : (RS (Ex.LV b c)).length ≤ 1
    · exact h
    · exfalso
      have h1 := (hR.outer 0 (by omega)).2
      have h2 := hlv 0 (by omega)
      have h3 := hlv 1 (by omega)
      unfold lvl at h2 h3
      rw [h2, show (0 : Nat) + 1 = 1 from rfl, h3] at h1
      exact h1 rfl
  have hst := pl_no c.length hp
  generalize RS (Ex.LV b c) = rs at *
  have hcases : rs = [] ∨ ∃ r, rs = [r] := by
    match rs, hN with
    | [], _ => exact .inl rfl
    | [r], _ => exact .inr ⟨r, rfl⟩
    | _ :: _ :: _, h => simp at h
  rcases hcases with rfl | ⟨r, rfl⟩
  · left
    exact ⟨by rw [← hkl]; rfl, rfl⟩
  · right
    have hpos := hR.pos 0 (by simp)
    have hrl : r.length = kc c c.length := by rw [← hkl]; simp
    have e0 : rn [r] 0 = r := rfl
    rw [e0] at hpos
    refine ⟨by omega, ?_⟩
    have hf := fst_kept hR (show 0 < [r].length by simp)
    have hl := lst_kept hR (show 0 < [r].length by simp)
    rw [Ex.LV_len] at hf hl
    have hbg : bg (Iso.MT c) [r] 0 = true := by
      cases hbb : bg (Iso.MT c) [r] 0 with
      | true => rfl
      | false =>
        obtain ⟨i, h1, h2, h3⟩ := (bg_iff hf.1).1 hbb
        have := hst i (by omega)
        rw [h2] at this
        cases this
    have hfo : fo (Iso.MT c) [r] 0 = none := by
      unfold fo
      rw [en_iff hl.1, hst _ hl.1]
      rfl
    have hch : chn (fo (Iso.MT c) [r]) ([r].length - 0) 0 = [0] := by
      show chn (fo (Iso.MT c) [r]) (0 + 1) 0 = [0]
      rw [chn_succ, hfo]
    have hlt : ltc (fo (Iso.MT c) [r]) ([r].length - 0) 0 = 0 := by unfold ltc; rw [hch]; rfl
    have hsd : sd b b = 1 + b := by rcases hb with rfl | rfl <;> decide
    refine ⟨r, ?_, hrl⟩
    unfold sqs
    rw [show [r].length = 1 from rfl, show List.range 1 = [0] from rfl]
    simp only [List.filter_cons, hbg, if_true, List.filter_nil, List.map_cons, List.map_nil]
    unfold sq
    rw [hch, hlt, hlv 0 (by simp), plc_one, e0]
    have e1 : ah b (Ex.LV b c) [r] 0 = b := rfl
    have e2 : bh b (Ex.LV b c) (Iso.MT c) [r] 0 = b := rfl
    rw [e1, e2, hsd]
end Rn
end Go.Proofs.YtmdmehopefgndaaGreatDoor

/- Each place that is kept lies in one sequence: plain mathematics. -/
namespace Go.Proofs.YtmdmehopefgndaaGreatDoor.Rn
set_option linter.unusedVariables false
open Ex (lev LV rm Formed)
section
variable {f : Nat → Option Nat} {N : Nat}
theorem chn_sorted (hf : ∀ k j, k < N → f k = some j → k < j ∧ j < N) : ∀ c a, a < N → (chn f c a).Pairwise (· < ·) ∧ ∀ j ∈ chn f c a, a ≤ j ∧ j < N := by
  intro c
  induction c with
  | zero => intro a _; exact ⟨by simp [chn], by simp [chn]⟩
  | succ c ih =>
    intro a ha
    rw [chn_succ]
    cases h : f a with
    | none => exact ⟨by simp, fun j hj => by simp at hj; omega⟩
    | some b =>
      obtain ⟨h1, h2⟩ := hf a b ha h
      obtain ⟨i1, i2⟩ := ih b h2
      refine ⟨List.pairwise_cons.2 ⟨fun j hj => by have := (i2 j hj).1; omega, i1⟩, fun j hj => ?_⟩
      rcases List.mem_cons.1 hj with rfl | hj
      · omega
      · have := i2 j hj; omega
theorem count_bg (hf : ∀ k j, k < N → f k = some j → k < j ∧ j < N) {k : Nat} (hk : ∀ a, a < N → f a ≠ some k) : ∀ c a, a < N → N - a ≤ c → (chn f c a).count k = [a].count k := by
  intro c
  induction c with
  | zero => intro a ha hc; omega
  | succ c ih =>
    intro a ha hc
    rw [chn_succ]
    cases h : f a with
    | none => rfl
    | some b =>
      obtain ⟨h1, h2⟩ := hf a b ha h
      have hi := ih b h2 (by omega)
      have hbk : ¬ b = k := fun e => hk a ha (by rw [h, e])
      have : ([b] : List Nat).count k = 0 := by rw [List.count_eq_zero]; simp; exact fun e => hbk e.symm
      rw [this] at hi
      simp only
      rw [show a :: chn f c b = [a] ++ chn f c b from rfl, List.count_append, hi, Nat.add_zero]
theorem count_pred (hf : ∀ k j, k < N → f k = some j → k < j ∧ j < N) {k p : Nat} (hp : p < N) (hpk : f p = some k) (hu : ∀ a, a < N → f a = some k → a = p) : ∀ c a, a < N → N - a ≤ c → (chn f c a).count k = [a].count k + (chn f c a).count p := by
  have hpk1 := hf p k hp hpk
  intro c
  induction c with
  | zero => intro a ha hc; omega
  | succ c ih =>
    intro a ha hc
    rw [chn_succ]
    cases h : f a with
    | none =>
      have hap : ¬ a = p := fun e => by rw [e, hpk] at h; cases h
      have : ([a] : List Nat).count p = 0 := by rw [List.count_eq_zero]; simp; exact fun e => hap e.symm
      simp only
      omega
    | some b =>
      obtain ⟨h1, h2⟩ := hf a b ha h
      have hi := ih b h2 (by omega)
      simp only
      rw [show a :: chn f c b = [a] ++ chn f c b from rfl, List.count_append, List.count_append, hi]
      have : ([b] : List Nat).count k = ([a] : List Nat).count p := by
        by_cases e : a = p
        · subst e
          rw [hpk] at h
          cases h
          simp
        · have e2 : ¬ b = k := fun q => e (hu a ha (by rw [h, q]))
          have q1 : ([b] : List Nat).count k = 0 := by rw [List.count_eq_zero]; simp; exact fun e => e2 e.symm
          have q2 : ([a] : List Nat).count p = 0 := by rw [List.count_eq_zero]; simp; exact fun q => e q.symm
          rw [q1, q2]
      omega
theorem sum_bg {k : Nat} {g : Nat → List Nat} (l : List Nat) (h : ∀ a ∈ l, (g a).count k = [a].count k) : (l.flatMap g).count k = l.count k := by
  induction l with
  | nil => rfl
  | cons a t ih =>
    rw [List.flatMap_cons, List.count_append, h a (by simp), ih (fun q hq => h q (by simp [hq])), show a :: t = [a] ++ t from rfl, List.count_append]
theorem sum_pred {k p : Nat} {g : Nat → List Nat} (l : List Nat) (h : ∀ a ∈ l, (g a).count k = [a].count k + (g a).count p) : (l.flatMap g).count k = l.count k + (l.flatMap g).count p := by
  induction l with
  | nil => rfl
  | cons a t ih =>
    rw [List.flatMap_cons, List.count_append, List.count_append, h a (by simp), ih (fun q hq => h q (by simp [hq])), show a :: t = [a] ++ t from rfl, List.count_append]
    omega
/-- The chains of those that begin are all of the runs, each once. -/
theorem chains_perm (hf : ∀ k j, k < N → f k = some j → k < j ∧ j < N) (bgn : Nat → Bool) (h1 : ∀ k, k < N → bgn k = false → ∃ p, p < k ∧ f p = some k) (h2 : ∀ a k, a < N → f a = some k → bgn k = false) (h3 : ∀ a a' k, a < N → a' < N → f a = some k → f a' = some k → a = a') :
    (((List.range N).filter bgn).flatMap fun a => chn f (N - a) a).Perm (List.range N) := by
  have hmem : ∀ a ∈ (List.range N).filter bgn, a < N := fun a ha => List.mem_range.1 (List.mem_filter.1 ha).1
  rw [List.perm_iff_count]
  intro k
  rw [List.count_range]
  by_cases hk : k < N
  · rw [if_pos hk]
    induction k using Nat.strongRecOn with
    | ind k ih =>
      have hcf : ((List.range N).filter bgn).count k = if bgn k then 1 else 0 := by
        cases hb : bgn k with
        | true => rw [List.count_filter hb, List.count_range, if_pos hk]; rfl
        | false =>
          rw [if_neg (by decide)]
          rw [List.count_eq_zero]
          intro hm
          have := (List.mem_filter.1 hm).2
          rw [hb] at this
          cases this
      cases hb : bgn k with
      | true =>
        rw [sum_bg _ (fun a ha => count_bg hf (fun q hq e => by have := h2 q k hq e; rw [hb] at this; cases this) (N - a) a (hmem a ha) (Nat.le_refl _)), hcf, hb]
        rfl
      | false =>
        obtain ⟨p, hp1, hp2⟩ := h1 k hk hb
        rw [sum_pred _ (fun a ha => count_pred hf (by omega) hp2 (fun q hq e => h3 q p k hq (by omega) e hp2) (N - a) a (hmem a ha) (Nat.le_refl _)), hcf, hb, ih p hp1 (by omega)]
        rfl
  · rw [if_neg hk, List.count_eq_zero]
    intro hm
    obtain ⟨a, ha, hm⟩ := List.mem_flatMap.1 hm
    have := ((chn_sorted hf (N - a) a (hmem a ha)).2 k hm).2
    omega
end
theorem range_rn (rs : List (List Nat)) : (List.range rs.length).flatMap (rn rs) = rs.flatten := by
  have : (List.range rs.length).map (rn rs) = rs := by
    apply List.ext_getElem
    · simp
    · intro i h1 h2
      simp [rn, List.getD, h2]
  rw [List.flatMap_def, this]
section
variable {b : Int} {c : List Int}
theorem fo_up (hb : b = 0 ∨ b = 1) (hF : Formed c) : ∀ k j, k < (RS (LV b c)).length → fo (Iso.MT c) (RS (LV b c)) k = some j → k < j ∧ j < (RS (LV b c)).length := fun k j hk h => ⟨(fo_some hb hF hk h).1, (fo_some hb hF hk h).2.1⟩
/-- All places of all sequences. -/
def AP (b : Int) (c : List Int) : List Nat := (sqs b (LV b c) (Iso.MT c) (RS (LV b c)) (RS (LV b c)).length).flatMap Sq.places
theorem AP_perm (hb : b = 0 ∨ b = 1) (hF : Formed c) : (AP b c).Perm ((List.range c.length).filter (kp (LV b c))) := by
  have h1 : AP b c = (((List.range (RS (LV b c)).length).filter (bg (Iso.MT c) (RS (LV b c)))).flatMap fun a => chn (fo (Iso.MT c) (RS (LV b c))) ((RS (LV b c)).length - a) a).flatMap (rn (RS (LV b c))) := by
    unfold AP sqs
    rw [List.flatMap_assoc, List.flatMap_map]
    rfl
  rw [h1]
  have h2 := chains_perm (fo_up hb hF) (bg (Iso.MT c) (RS (LV b c))) (fun k hk h => bg_pred hb hF hk h) (fun a k ha h => fo_not_bg hb hF ha h) (fun a a' k ha ha' h h' => fo_inj hb hF ha ha' h h')
  have h3 := List.Perm.flatMap_right (rn (RS (LV b c))) h2
  rw [range_rn, (runs_of (LV b c)).flat, Ex.LV_len] at h3
  exact h3
theorem AP_count (hb : b = 0 ∨ b = 1) (hF : Formed c) (i : Nat) (hi : i < c.length) : (AP b c).count i = if kp (LV b c) i then 1 else 0 := by
  rw [(AP_perm hb hF).count_eq]
  have hn : ((List.range c.length).filter (kp (LV b c))).Nodup := List.Pairwise.filter _ List.nodup_range
  rw [hn.count]
  cases h : kp (LV b c) i with
  | true => rw [if_pos (List.mem_filter.2 ⟨List.mem_range.2 hi, h⟩)]; rfl
  | false => rw [if_neg (fun hm => by have := (List.mem_filter.1 hm).2; rw [h] at this; cases this)]; rfl
/-- A sequence's places rise, are kept and have its level. -/
theorem sq_places (hb : b = 0 ∨ b = 1) (hF : Formed c) {k : Nat} (hk : k < (RS (LV b c)).length) :
    (sq b (LV b c) (Iso.MT c) (RS (LV b c)) k).places.Pairwise (· < ·) ∧ ∀ i ∈ (sq b (LV b c) (Iso.MT c) (RS (LV b c)) k).places, i < c.length ∧ (LV b c).getD i 0 = (sq b (LV b c) (Iso.MT c) (RS (LV b c)) k).lvl := by
  have hR := runs_of (LV b c)
  obtain ⟨s1, s2⟩ := chn_sorted (fo_up hb hF) ((RS (LV b c)).length - k) k hk
  have hlv : ∀ f c' a, f = fo (Iso.MT c) (RS (LV b c)) → a < (RS (LV b c)).length → ∀ j ∈ chn f c' a, lvl (LV b c) (RS (LV b c)) j = lvl (LV b c) (RS (LV b c)) a := by
    intro f c'
    induction c' with
    | zero => intro a _ _ j hj; simp [chn] at hj
    | succ c' ih =>
      intro a hfe ha j hj
      rw [chn_succ] at hj
      rcases List.mem_cons.1 hj with rfl | hj
      · rfl
      · cases h : f a with
        | none => rw [h] at hj; simp at hj
        | some q =>
          rw [h] at hj
          subst hfe
          rw [ih q rfl (fo_some hb hF ha h).2.1 j hj, fo_lvl hb hF ha h]
  constructor
  · show (plc _ _).Pairwise _
    unfold plc
    rw [List.pairwise_flatMap]
    refine ⟨fun a ha => ?_, s1.imp_of_mem fun {a a'} ha ha' hlt x hx y hy => ?_⟩
    · have haN := (s2 a ha).2
      rw [List.pairwise_iff_getElem]
      intro i j hi hj hij
      have := run_lt hR haN j i hij hj
      simpa [List.getD, hi, hj] using this
    · have haN' := (s2 a' ha').2
      obtain ⟨i, hi, rfl⟩ := List.mem_iff_getElem.1 hx
      obtain ⟨j, hj, rfl⟩ := List.mem_iff_getElem.1 hy
      have h1 := (run_le hR (show a < (RS (LV b c)).length by omega) hi).2
      have h2 := (run_le hR haN' hj).1
      have h3 := lst_fst hR a' a hlt haN'
      rw [show (rn (RS (LV b c)) a).getD i 0 = (rn (RS (LV b c)) a)[i] from by simp [List.getD, hi]] at h1
      rw [show (rn (RS (LV b c)) a').getD j 0 = (rn (RS (LV b c)) a')[j] from by simp [List.getD, hj]] at h2
      omega
  · intro i hi
    obtain ⟨a, ha, hi⟩ := List.mem_flatMap.1 hi
    have haN := (s2 a ha).2
    obtain ⟨m, hm, rfl⟩ := List.mem_iff_getElem.1 hi
    have h1 := hR.kept a m haN hm
    rw [show (rn (RS (LV b c)) a).getD m 0 = (rn (RS (LV b c)) a)[m] from by simp [List.getD, hm], Ex.LV_len] at h1
    exact ⟨h1.1, by rw [h1.2.2]; exact hlv _ _ k rfl hk a ha⟩
end
/-- How often each place has been seen. -/
def CL (n : Nat) (l : List Nat) : List Int := (List.range n).map fun i => (l.count i : Int)
theorem CL_len (n : Nat) (l : List Nat) : (CL n l).length = n := by simp [CL]
theorem CL_at (n : Nat) (l : List Nat) (i : Nat) (h : i < n) : (CL n l).getD i 0 = (l.count i : Int) := by simp [CL, List.getD, h]
theorem CL_nil (n : Nat) : CL n [] = List.replicate n 0 := by
  apply List.ext_getElem
  · simp [CL]
  · intro i h1 h2; simp [CL]
theorem CL_snoc (n : Nat) (l : List Nat) (x : Nat) : CL n (l ++ [x]) = (CL n l).set x ((l.count x : Int) + 1) := by
  apply List.ext_getElem
  · simp [CL]
  · intro i h1 h2
    rw [List.getElem_set]
    simp only [CL, List.getElem_map, List.getElem_range, List.count_append]
    by_cases h : x = i
    · subst h; simp
    · rw [if_neg h]
      have : ([x] : List Nat).count i = 0 := by rw [List.count_eq_zero]; simp; exact fun e => h e.symm
      rw [this]; simp
end Go.Proofs.YtmdmehopefgndaaGreatDoor.Rn
