import Derived.Test.YtfadjgaledddjaaGreatDoorZf
import Derived.Test.YtfadjgaledddjaaGreatDoorZm2
import Derived.Test.YtfadjgaledddjaaGreatDoorZa
import Derived.Test.YtfadjgaledddjaaGreatDoorZn
import Derived.Test.YtfadjgaledddjaaGreatDoorZq
import Derived.Test.YtfadjgaledddjaaGreatDoorZp
import Derived.Deep.Cut
import Derived.Deep.RegionWith
import Derived.Deep.RegionHeld
import Derived.Deep.QuietTactic
import Derived.BigQuiet
/- What lies in an isolate changes no level of what does not, if the isolate has a level of its own: plain mathematics. -/
namespace Go.Proofs.YtfadjgaledddjaaGreatDoor.Rn
set_option linter.unusedVariables false
open Ex (lev LV TY rm Formed at' mid fs typ)
/-- As long as something overflows, there is no room. -/
def Ov (s : Ex.St) : Prop := 0 < s.oi ∨ 0 < s.oe → 124 ≤ (Ex.hd s.st).lv
theorem no_can {s : Ex.St} {o : Bool} (h : Ex.can s o = false) (ho : Ov s) : 124 ≤ (Ex.hd s.st).lv := by
  by_cases h1 : 0 < s.oi ∨ 0 < s.oe
  · exact ho h1
  · by_cases h2 : Ex.nl (Ex.hd s.st).lv o ≤ 125
    · have := Ex.can_mk (s := s) (o := o) h2 (by omega) (by omega)
      rw [h] at this; cases this
    · have := (Ex.nl_gt (Ex.hd s.st).lv o).2; omega
theorem Ov.emb {s : Ex.St} (h : Ov s) (x : Int) : Ov (Ex.emb s x) := by
  unfold Ex.emb
  split
  · rename_i hc
    have := Ex.can_true hc
    intro h1; simp only at h1; omega
  · rename_i hc
    have hn := no_can (by simpa using hc) h
    split
    · intro _; exact hn
    · exact h
theorem Ov.iso {s : Ex.St} (h : Ov s) (o : Bool) : Ov (Ex.iso s o) := by
  unfold Ex.iso
  split
  · rename_i hc
    have := Ex.can_true hc
    intro h1; simp only at h1; omega
  · rename_i hc
    have hn := no_can (by simpa using hc) h
    intro _; exact hn
theorem Ov.pdi {s : Ex.St} (h : Ov s) : Ov (Ex.pdi s) := by
  unfold Ex.pdi
  split
  · intro h1
    simp only at h1 ⊢
    exact h (by omega)
  · split
    · exact h
    · intro h1; simp only at h1; omega
theorem Ov.pdf {s : Ex.St} (h : Ov s) : Ov (Ex.pdf s) := by
  unfold Ex.pdf
  split
  · exact h
  · split
    · intro h1
      simp only at h1 ⊢
      exact h (by omega)
    · split
      · intro h1; simp only at h1; omega
      · exact h
theorem Ov.mid {s : Ex.St} (h : Ov s) (x : Int) : Ov (Ex.mid s x) := by
  unfold Ex.mid
  split
  · exact h.emb x
  · split
    · exact h.pdf
    · split
      · exact h.pdi
      · exact h
theorem Ov.at (b : Int) (c : List Int) : ∀ k, Ov (at' (Ex.s0 b) c k) := by
  intro k
  induction k with
  | zero => intro h; simp [at', Ex.s0] at h
  | succ k ih =>
    rw [Ex.at_succ]
    unfold Ex.step
    split
    · exact ih.iso _
    · exact ih.mid _
/-- In an isolate that has a level of its own all levels are greater. -/
theorem inside_more {b : Int} {c : List Int} (hF : Formed c) {i : Nat} (h : Iso.st (c.getD i 0) = true) (hn : Iso.partner c i < c.length) (hl : lev b (Ex.s0 b) c i ≤ 123) :
    ∀ k, i < k → k < Iso.partner c i → rm (c.getD k 0) = false → lev b (Ex.s0 b) c i < lev b (Ex.s0 b) c k := by
  obtain ⟨o, ho⟩ : ∃ o, Ex.wo (c.getD i 0) (c.drop (i + 1)) = o := ⟨_, rfl⟩
  have hi := lev_st (b := b) (s := Ex.s0 b) h
  have hcan : Ex.can (at' (Ex.s0 b) c i) o = true := by
    cases hc : Ex.can (at' (Ex.s0 b) c i) o with
    | true => rfl
    | false => have := no_can hc (Ov.at b c i); omega
  intro k h1 h2 h3
  have hx : ¬ c.getD k 0 = 11 := fun e => by have := (hF k (by omega)).2.2 e; omega
  have e1 : lev b (Ex.s0 b) c k = (Ex.hd (mid (at' (Ex.s0 b) c k) (c.getD k 0)).st).lv := by unfold Ex.lev; rw [(Ex.tl_kept h3 hx).1]
  have e2 : ∃ d, Ex.In (at' (Ex.s0 b) c i) ⟨Ex.nl (Ex.hd (at' (Ex.s0 b) c i).st).lv o, 0, true⟩ (Ex.can (at' (Ex.s0 b) c i) o) (mid (at' (Ex.s0 b) c k) (c.getD k 0)) d := by
    obtain ⟨m, rfl⟩ : ∃ m, k = i + 1 + m := ⟨k - (i + 1), by omega⟩
    obtain ⟨d, g1, g2⟩ := in_at (Ex.s0 b) h ho m (by omega)
    by_cases hp : c.getD (i + 1 + m) 0 = 23
    · obtain ⟨l', q1, _⟩ := Iso.stk_mid h (j := i + 1 + m + 1) (by omega) (by omega)
      have q2 : (Iso.stk c (i + 1 + m + 1)).length ≥ (Iso.stk c i).length + 1 := by rw [q1]; simp
      have hnx := Iso.stk_nx c (i + 1 + m)
      rw [hp, Iso.nx, if_neg (by decide), if_pos rfl] at hnx
      obtain ⟨d', rfl⟩ : ∃ d', d = d' + 1 := ⟨d - 1, by omega⟩
      refine ⟨d', ?_⟩
      rw [hp]
      exact g2.pdi
    · exact ⟨d, g2.mid rfl _ hp⟩
  obtain ⟨d, e2⟩ := e2
  rw [hcan] at e2
  rcases e2 with ⟨_, E, q1, _, _⟩ | ⟨q, _⟩
  · have hok := (Ex.Ok.at (b := b) c k).mid (c.getD k 0)
    have hch := hok.ch
    rw [e1, hi]
    rw [q1] at hch ⊢
    have := chain_ge E hch
    have h4 := (Ex.nl_gt (Ex.hd (at' (Ex.s0 b) c i).st).lv o).1
    simp only at this
    omega
  · cases q
/-- An LRI, classes, a PDI between others. -/
def al (a x d : List Int) : List Int := a ++ 20 :: (x ++ 23 :: d)
/-- Classes without isolates and separators. -/
def Cl (x : List Int) : Prop := ∀ y ∈ x, 1 ≤ y ∧ y ≤ 19 ∧ ¬ y = 11
theorem cl_st {y : Int} (h : 1 ≤ y ∧ y ≤ 19 ∧ ¬ y = 11) : Iso.st y = false ∧ ¬ y = 23 := by
  refine ⟨?_, by omega⟩
  unfold Iso.st
  simp only [Bool.or_eq_false_iff, beq_eq_false_iff_ne]
  omega
theorem al_len (a x d : List Int) : (al a x d).length = a.length + 1 + x.length + 1 + d.length := by simp [al]; omega
theorem al_left (a x d : List Int) {k : Nat} (h : k < a.length) : (al a x d).getD k 0 = a.getD k 0 := by simp [al, List.getD, List.getElem?_append_left h]
theorem al_drop (a x d : List Int) {k : Nat} (h : k ≤ a.length) : (al a x d).drop k = al (a.drop k) x d := by unfold al; rw [List.drop_append_of_le_length h]
theorem al_init (a x d : List Int) : (al a x d).getD a.length 0 = 20 := by simp [al, List.getD]
theorem al_drop1 (a x d : List Int) (m : Nat) : (al a x d).drop (a.length + 1 + m) = (x ++ 23 :: d).drop m := by
  unfold al
  rw [List.drop_append, List.drop_eq_nil_of_le (by omega), show a.length + 1 + m - a.length = m + 1 from by omega]
  rfl
theorem al_drop2 (a x d : List Int) (m : Nat) : (al a x d).drop (a.length + 1 + x.length + 1 + m) = d.drop m := by
  rw [show a.length + 1 + x.length + 1 + m = a.length + 1 + (x.length + 1 + m) from by omega, al_drop1, List.drop_append, List.drop_eq_nil_of_le (by omega), show x.length + 1 + m - x.length = m + 1 from by omega]
  rfl
theorem getD_drop (l : List Int) (k m : Nat) : (l.drop k).getD m 0 = l.getD (k + m) 0 := by simp [List.getD]
theorem al_inner (a x d : List Int) {m : Nat} (h : m < x.length) : (al a x d).getD (a.length + 1 + m) 0 = x.getD m 0 := by
  have := getD_drop (al a x d) (a.length + 1) m
  rw [← this]
  have e := al_drop1 a x d 0
  rw [Nat.add_zero] at e
  rw [e, List.drop_zero]
  simp [List.getD, List.getElem?_append_left h]
theorem al_pdi (a x d : List Int) : (al a x d).getD (a.length + 1 + x.length) 0 = 23 := by
  have := getD_drop (al a x d) (a.length + 1) x.length
  rw [← this]
  have e := al_drop1 a x d 0
  rw [Nat.add_zero] at e
  rw [e, List.drop_zero]
  simp [List.getD]
theorem al_end (a x d : List Int) (m : Nat) : (al a x d).getD (a.length + 1 + x.length + 1 + m) 0 = d.getD m 0 := by
  have := getD_drop (al a x d) (a.length + 1 + x.length + 1) m
  rw [← this]
  have e := al_drop2 a x d 0
  rw [Nat.add_zero] at e
  rw [e, List.drop_zero]
theorem ptl_skip (x r : List Int) (h : Cl x) (o : Nat) : Iso.ptl o (x ++ r) = x.length + Iso.ptl o r := by
  induction x with
  | nil => simp
  | cons y x ih =>
    have hy := cl_st (h y (by simp))
    rw [List.cons_append, Iso.ptl_cons, if_neg (by rw [hy.1]; decide), if_neg hy.2, ih fun z hz => h z (by simp [hz])]
    simp; omega
theorem ptl_iso (x d : List Int) (h : Cl x) (o : Nat) : Iso.ptl o (20 :: (x ++ 23 :: d)) = x.length + 2 + Iso.ptl o d := by
  rw [Iso.ptl_cons, if_pos (by decide), ptl_skip x _ h, Iso.ptl_cons, if_neg (by decide), if_pos rfl, if_neg (by omega)]
  simp only [Nat.add_sub_cancel]
  omega
/-- Outer places that correspond. -/
def Ou (A X X' : Nat) (i i' : Nat) : Prop := (i ≤ A ∧ i' = i) ∨ ∃ m, i = A + 1 + X + m ∧ i' = A + 1 + X' + m
theorem Ou.flip {A X X' i i' : Nat} (h : Ou A X X' i i') : Ou A X' X i' i := by
  rcases h with ⟨h1, rfl⟩ | ⟨m, h1, h2⟩
  · exact .inl ⟨h1, rfl⟩
  · exact .inr ⟨m, h2, h1⟩
theorem Ou.fun {A X X' i i' i2 : Nat} (h : Ou A X X' i i') (h' : Ou A X X' i i2) : i' = i2 := by
  rcases h with ⟨h1, rfl⟩ | ⟨m, h1, h2⟩ <;> rcases h' with ⟨h3, rfl⟩ | ⟨m', h3, h4⟩ <;> omega
theorem Ou.lt {A X X' i i' j j' : Nat} (h : Ou A X X' i i') (h' : Ou A X X' j j') (hl : i < j) : i' < j' := by
  rcases h with ⟨h1, rfl⟩ | ⟨m, h1, h2⟩ <;> rcases h' with ⟨h3, rfl⟩ | ⟨m', h3, h4⟩ <;> omega
theorem outer_or (A X X' i : Nat) : (∃ i', Ou A X X' i i') ∨ (A < i ∧ i < A + 1 + X) := by
  by_cases h : i ≤ A
  · exact .inl ⟨i, .inl ⟨h, rfl⟩⟩
  · by_cases h2 : A + 1 + X ≤ i
    · exact .inl ⟨A + 1 + X' + (i - (A + 1 + X)), .inr ⟨i - (A + 1 + X), by omega, rfl⟩⟩
    · exact .inr ⟨by omega, by omega⟩
section
variable {a x x' d : List Int}
theorem fs_skip (x r : List Int) (h : Cl x) (o : Nat) : fs (o + 1) (x ++ r) = fs (o + 1) r := by
  induction x with
  | nil => rfl
  | cons y x ih =>
    have hy := cl_st (h y (by simp))
    rw [List.cons_append, Ex.fs_cons, if_neg (by omega), if_neg (by omega), if_neg (by omega)]
    rw [show Iso.nx (o + 1) y = o + 1 from by unfold Iso.nx; rw [if_neg (by rw [hy.1]; decide), if_neg hy.2]]
    exact ih fun z hz => h z (by simp [hz])
theorem fs_iso (x d : List Int) (h : Cl x) (o : Nat) : fs o (20 :: (x ++ 23 :: d)) = fs o d := by
  rw [Ex.fs_cons, if_neg (by omega), if_neg (by omega), if_neg (by omega)]
  rw [show Iso.nx o 20 = o + 1 from rfl, fs_skip x _ h, Ex.fs_cons, if_neg (by omega), if_neg (by omega), if_neg (by omega)]
  rfl
theorem fs_al (h : Cl x) (h' : Cl x') : ∀ (a : List Int) (o : Nat), fs o (al a x d) = fs o (al a x' d) := by
  intro a
  induction a with
  | nil => intro o; show fs o (20 :: (x ++ 23 :: d)) = fs o (20 :: (x' ++ 23 :: d)); rw [fs_iso x d h, fs_iso x' d h']
  | cons y a ih =>
    intro o
    show fs o (y :: al a x d) = fs o (y :: al a x' d)
    rw [Ex.fs_cons, Ex.fs_cons, ih]
theorem bso_skip2 (x r : List Int) (h : Cl x) (o : Nat) : Iso.bso (o + 1) (x ++ r) = Iso.bso (o + 1) r := by
  induction x with
  | nil => rfl
  | cons y x ih =>
    have hy := cl_st (h y (by simp))
    rw [List.cons_append, Iso.bso_cons, if_neg (by omega), if_neg (by omega)]
    rw [show Iso.nx (o + 1) y = o + 1 from by unfold Iso.nx; rw [if_neg (by rw [hy.1]; decide), if_neg hy.2]]
    exact ih fun z hz => h z (by simp [hz])
theorem bso_al (h : Cl x) (h' : Cl x') : ∀ (a : List Int) (o : Nat), Iso.bso o (al a x d) = Iso.bso o (al a x' d) := by
  intro a
  induction a with
  | nil =>
    intro o
    have key : ∀ y, Cl y → Iso.bso o (20 :: (y ++ 23 :: d)) = Iso.bso o d := fun y hy => by
      rw [Iso.bso_cons, if_neg (by omega), if_neg (by omega), show Iso.nx o 20 = o + 1 from rfl, bso_skip2 y _ hy, Iso.bso_cons, if_neg (by omega), if_neg (by omega)]
      rfl
    show Iso.bso o (20 :: (x ++ 23 :: d)) = Iso.bso o (20 :: (x' ++ 23 :: d))
    rw [key x h, key x' h']
  | cons y a ih =>
    intro o
    show Iso.bso o (y :: al a x d) = Iso.bso o (y :: al a x' d)
    rw [Iso.bso_cons, Iso.bso_cons, ih]
theorem partner_init (h : Cl x) : Iso.partner (al a x d) a.length = a.length + 1 + x.length := by
  unfold Iso.partner
  have e := al_drop1 a x d 0
  rw [Nat.add_zero, List.drop_zero] at e
  rw [e, ptl_skip x _ h, Iso.ptl_cons, if_neg (by decide), if_pos rfl, if_pos rfl]
  rfl
theorem ptl_al (h : Cl x) (h' : Cl x') : ∀ (a : List Int) (o : Nat), (Iso.ptl o (al a x d) < a.length ∧ Iso.ptl o (al a x' d) = Iso.ptl o (al a x d)) ∨ ∃ m, Iso.ptl o (al a x d) = a.length + 2 + x.length + m ∧ Iso.ptl o (al a x' d) = a.length + 2 + x'.length + m := by
  intro a
  induction a with
  | nil =>
    intro o
    refine .inr ⟨Iso.ptl o d, ?_, ?_⟩
    · show Iso.ptl o (20 :: (x ++ 23 :: d)) = _; rw [ptl_iso x d h]; simp; omega
    · show Iso.ptl o (20 :: (x' ++ 23 :: d)) = _; rw [ptl_iso x' d h']; simp; omega
  | cons y a ih =>
    intro o
    show (Iso.ptl o (y :: al a x d) < a.length + 1 ∧ Iso.ptl o (y :: al a x' d) = Iso.ptl o (y :: al a x d)) ∨ ∃ m, Iso.ptl o (y :: al a x d) = a.length + 1 + 2 + x.length + m ∧ Iso.ptl o (y :: al a x' d) = a.length + 1 + 2 + x'.length + m
    rw [Iso.ptl_cons, Iso.ptl_cons]
    have key : ∀ o', (Iso.ptl o' (al a x d) + 1 < a.length + 1 ∧ Iso.ptl o' (al a x' d) + 1 = Iso.ptl o' (al a x d) + 1) ∨ ∃ m, Iso.ptl o' (al a x d) + 1 = a.length + 1 + 2 + x.length + m ∧ Iso.ptl o' (al a x' d) + 1 = a.length + 1 + 2 + x'.length + m := fun o' => by
      rcases ih o' with ⟨h1, h2⟩ | ⟨m, h1, h2⟩
      · exact .inl ⟨by omega, by omega⟩
      · exact .inr ⟨m, by omega, by omega⟩
    split
    · exact key _
    · split
      · split
        · exact .inl ⟨by omega, rfl⟩
        · exact key _
      · exact key _
theorem ou_getD {i i' : Nat} (h : Ou a.length x.length x'.length i i') : (al a x d).getD i 0 = (al a x' d).getD i' 0 := by
  rcases h with ⟨h1, rfl⟩ | ⟨m, rfl, rfl⟩
  · rcases Nat.lt_or_ge i' a.length with h2 | h2
    · rw [al_left a x d h2, al_left a x' d h2]
    · obtain rfl : i' = a.length := by omega
      rw [al_init, al_init]
  · cases m with
    | zero =>
      simp only [Nat.add_zero]
      rw [al_pdi, al_pdi]
    | succ m =>
      rw [show a.length + 1 + x.length + (m + 1) = a.length + 1 + x.length + 1 + m from by omega, show a.length + 1 + x'.length + (m + 1) = a.length + 1 + x'.length + 1 + m from by omega, al_end, al_end]
theorem ou_len {i i' : Nat} (h : Ou a.length x.length x'.length i i') : i < (al a x d).length ↔ i' < (al a x' d).length := by
  rw [al_len, al_len]
  rcases h with ⟨h1, rfl⟩ | ⟨m, rfl, rfl⟩ <;> omega
theorem ou_partner (h : Cl x) (h' : Cl x') {i i' : Nat} (hr : Ou a.length x.length x'.length i i') : Ou a.length x.length x'.length (Iso.partner (al a x d) i) (Iso.partner (al a x' d) i') := by
  rcases hr with ⟨h1, rfl⟩ | ⟨m, rfl, rfl⟩
  · rcases Nat.lt_or_ge i' a.length with h2 | h2
    · unfold Iso.partner
      rw [al_drop a x d (by omega), al_drop a x' d (by omega)]
      rcases ptl_al (d := d) h h' (a.drop (i' + 1)) 0 with ⟨g1, g2⟩ | ⟨m, g1, g2⟩
      · rw [List.length_drop] at g1
        rw [g2]
        exact .inl ⟨by omega, rfl⟩
      · rw [List.length_drop] at g1 g2
        rw [g1, g2]
        exact .inr ⟨m + 1, by omega, by omega⟩
    · obtain rfl : i' = a.length := by omega
      rw [partner_init h, partner_init h']
      exact .inr ⟨0, rfl, rfl⟩
  · unfold Iso.partner
    rw [show a.length + 1 + x.length + m + 1 = a.length + 1 + x.length + 1 + m from by omega, show a.length + 1 + x'.length + m + 1 = a.length + 1 + x'.length + 1 + m from by omega, al_drop2, al_drop2]
    exact .inr ⟨1 + m + Iso.ptl 0 (d.drop m), by omega, by omega⟩
theorem at_al (s : Ex.St) (h : Cl x) (h' : Cl x') : ∀ k, k ≤ a.length → at' s (al a x d) k = at' s (al a x' d) k := by
  intro k
  induction k with
  | zero => intro _; rfl
  | succ k ih =>
    intro hk
    rw [Ex.at_succ, Ex.at_succ, ih (by omega), al_left a x d (by omega), al_left a x' d (by omega), al_drop a x d hk, al_drop a x' d hk]
    unfold Ex.step Ex.wo
    rw [fs_al h h']
theorem al_back (s : Ex.St) (h : Cl x) : at' s (al a x d) (a.length + 1 + x.length + 1) = at' s (al a x d) a.length := by
  have hp := partner_init (a := a) (d := d) h
  have := Ex.at_pair s (c := al a x d) (i := a.length) (by rw [al_init]; decide) (by rw [hp, al_len]; omega)
  rw [hp] at this
  exact this
theorem at_more (s : Ex.St) (c : List Int) (j : Nat) : ∀ m, at' s c (j + m) = at' (at' s c j) (c.drop j) m := by
  intro m
  induction m with
  | zero => rfl
  | succ m ih =>
    rw [show j + (m + 1) = j + m + 1 from by omega, Ex.at_succ, Ex.at_succ, ih, List.drop_drop]
    rw [getD_drop, show j + m + 1 = j + (m + 1) from by omega]
theorem ou_state {f : Ex.St → Int → Int} (s : Ex.St) (h : Cl x) (h' : Cl x') {i i' : Nat} (hr : Ou a.length x.length x'.length i i') :
    f (mid (at' s (al a x d) i) ((al a x d).getD i 0)) ((al a x d).getD i 0) = f (mid (at' s (al a x' d) i') ((al a x' d).getD i' 0)) ((al a x' d).getD i' 0) := by
  have hg := ou_getD (d := d) hr
  rcases hr with ⟨h1, rfl⟩ | ⟨m, rfl, rfl⟩
  · rw [at_al s h h' i' h1, hg]
  · cases m with
    | zero =>
      have key : ∀ y, Cl y → mid (at' s (al a y d) (a.length + 1 + y.length)) 23 = at' s (al a y d) a.length := fun y hy => by
        rw [← al_back s hy, Ex.at_succ, al_pdi]; rfl
      simp only [Nat.add_zero]
      rw [al_pdi, al_pdi, key x h, key x' h', at_al s h h' _ (Nat.le_refl _)]
    | succ m =>
      have e : ∀ y, Cl y → at' s (al a y d) (a.length + 1 + y.length + (m + 1)) = at' (at' s (al a y d) a.length) d m := fun y hy => by
        have q := al_drop2 a y d 0
        rw [Nat.add_zero, List.drop_zero] at q
        rw [show a.length + 1 + y.length + (m + 1) = a.length + 1 + y.length + 1 + m from by omega, at_more, al_back s hy, q]
      rw [hg, e x h, e x' h', at_al s h h' _ (Nat.le_refl _)]
theorem ou_lev (b : Int) (h : Cl x) (h' : Cl x') {i i' : Nat} (hr : Ou a.length x.length x'.length i i') : lev b (Ex.s0 b) (al a x d) i = lev b (Ex.s0 b) (al a x' d) i' := ou_state (f := Ex.tl b) (Ex.s0 b) h h' hr
theorem ou_typ (b : Int) (h : Cl x) (h' : Cl x') {i i' : Nat} (hr : Ou a.length x.length x'.length i i') : typ (Ex.s0 b) (al a x d) i = typ (Ex.s0 b) (al a x' d) i' := ou_state (f := Ex.ty) (Ex.s0 b) h h' hr
theorem getD_none {l : List Int} {i : Nat} (h : ¬ i < l.length) : l.getD i 0 = 0 := by simp [List.getD, List.getElem?_eq_none (Nat.not_lt.1 h)]
theorem ou_LV (b : Int) (h : Cl x) (h' : Cl x') {i i' : Nat} (hr : Ou a.length x.length x'.length i i') : (LV b (al a x d)).getD i 0 = (LV b (al a x' d)).getD i' 0 := by
  by_cases hi : i < (al a x d).length
  · rw [Ex.LV_at b _ _ hi, Ex.LV_at b _ _ ((ou_len hr).1 hi), ou_lev b h h' hr]
  · rw [getD_none (by rw [Ex.LV_len]; exact hi), getD_none (by rw [Ex.LV_len]; exact fun q => hi ((ou_len hr).2 q))]
theorem ou_TY (b : Int) (h : Cl x) (h' : Cl x') {i i' : Nat} (hr : Ou a.length x.length x'.length i i') : (TY b (al a x d)).getD i 0 = (TY b (al a x' d)).getD i' 0 := by
  by_cases hi : i < (al a x d).length
  · rw [Ex.TY_at b _ _ hi, Ex.TY_at b _ _ ((ou_len hr).1 hi), ou_typ b h h' hr]
  · rw [getD_none (by rw [Ex.TY_len]; exact hi), getD_none (by rw [Ex.TY_len]; exact fun q => hi ((ou_len hr).2 q))]
theorem ou_kp (b : Int) (h : Cl x) (h' : Cl x') {i i' : Nat} (hr : Ou a.length x.length x'.length i i') : kp (LV b (al a x d)) i = kp (LV b (al a x' d)) i' := by unfold kp; rw [ou_LV b h h' hr]
theorem init_kept {b : Int} (hb : b = 0 ∨ b = 1) (a x d : List Int) : kp (LV b (al a x d)) a.length = true := by
  rw [kp_rm hb (by rw [al_len]; omega), al_init]; rfl
theorem pdi_kept {b : Int} (hb : b = 0 ∨ b = 1) (a x d : List Int) : kp (LV b (al a x d)) (a.length + 1 + x.length) = true := by
  rw [kp_rm hb (by rw [al_len]; omega), al_pdi]; rfl
/-- The premise: the initiator's level leaves room. -/
theorem inner_more {b : Int} (hb : b = 0 ∨ b = 1) (hF : Formed (al a x d)) (h : Cl x) (hl : (LV b (al a x d)).getD a.length 0 ≤ 123) {z : Nat} (h1 : a.length < z) (h2 : z < a.length + 1 + x.length) (hk : kp (LV b (al a x d)) z = true) :
    (LV b (al a x d)).getD a.length 0 < (LV b (al a x d)).getD z 0 := by
  have hp := partner_init (a := a) (d := d) h
  have hz : z < (al a x d).length := by rw [al_len]; omega
  have hA : a.length < (al a x d).length := by rw [al_len]; omega
  rw [Ex.LV_at b _ _ hA] at hl ⊢
  rw [Ex.LV_at b _ _ hz]
  refine inside_more hF (by rw [al_init]; decide) (by rw [hp, al_len]; omega) hl z h1 (by rw [hp]; exact h2) ?_
  have := hk
  rw [kp_rm hb hz] at this
  simpa using this
theorem pair_lv {b : Int} (h : Cl x) : (LV b (al a x d)).getD (a.length + 1 + x.length) 0 = (LV b (al a x d)).getD a.length 0 := by
  have hp := partner_init (a := a) (d := d) h
  have := (Ex.lev_pair b (Ex.s0 b) (c := al a x d) (i := a.length) (by rw [al_init]; decide) (by rw [hp, al_len]; omega)).1
  rw [hp] at this
  rw [Ex.LV_at b _ _ (by rw [al_len]; omega), Ex.LV_at b _ _ (by rw [al_len]; omega), this]
/-- The initiator is followed by its PDI. -/
theorem nx_pair {b : Int} (hb : b = 0 ∨ b = 1) (hF : Formed (al a x d)) (h : Cl x) (hl : (LV b (al a x d)).getD a.length 0 ≤ 123) : Nx b (al a x d) a.length (a.length + 1 + x.length) := by
  refine ⟨init_kept hb a x d, pdi_kept hb a x d, by rw [al_len]; omega, (pair_lv h).symm, ?_⟩
  by_cases he : ∃ z, a.length < z ∧ z < a.length + 1 + x.length ∧ kp (LV b (al a x d)) z = true
  · obtain ⟨z0, z1, z2, z3⟩ := he
    refine .inr ⟨by rw [al_init]; decide, partner_init h, fun z ha hz hk => ?_⟩
    have hzz : z ≤ z0 := by
      rcases Nat.lt_or_ge z0 z with q | q
      · have := ha.2 z0 z1 q; rw [z3] at this; cases this
      · exact q
    have := inner_more hb hF h hl ha.1 (by omega) hk
    omega
  · refine .inl ⟨by omega, fun z z1 z2 => ?_⟩
    cases hk : kp (LV b (al a x d)) z with
    | false => rfl
    | true => exact absurd ⟨z, z1, z2, hk⟩ he
theorem adj_out {b : Int} (h : Cl x) (h' : Cl x') {i i' j j' : Nat} (hi : Ou a.length x.length x'.length i i') (hj : Ou a.length x.length x'.length j j') (hn : j ≤ a.length ∨ a.length + 1 + x.length ≤ i) (ha : Adj (LV b (al a x d)) i j) : Adj (LV b (al a x' d)) i' j' := by
  refine ⟨hi.lt hj ha.1, fun z z1 z2 => ?_⟩
  have hz : ∃ q, Ou a.length x.length x'.length q z := by
    rcases hn with hn | hn
    · rcases hj with ⟨_, rfl⟩ | ⟨m, q, _⟩
      · exact ⟨z, .inl ⟨by omega, rfl⟩⟩
      · omega
    · rcases hi with ⟨q, _⟩ | ⟨m, q1, q2⟩
      · omega
      · exact ⟨a.length + 1 + x.length + (z - (a.length + 1 + x'.length)), .inr ⟨z - (a.length + 1 + x'.length), rfl, by omega⟩⟩
  obtain ⟨q, hq⟩ := hz
  rw [← ou_kp b h h' hq]
  exact ha.2 q (hi.flip.lt hq.flip z1) (hq.flip.lt hj.flip z2)
/-- Nothing goes in or out. -/
theorem nx_closed {b : Int} (hb : b = 0 ∨ b = 1) (hF : Formed (al a x d)) (h : Cl x) (hl : (LV b (al a x d)).getD a.length 0 ≤ 123) {i j : Nat} (hn : Nx b (al a x d) i j) : (a.length < i ∧ i < a.length + 1 + x.length) ↔ (a.length < j ∧ j < a.length + 1 + x.length) := by
  have hup := hn.up
  have hpk := pdi_kept hb a x d
  have hik := init_kept hb a x d
  constructor
  · rintro ⟨h1, h2⟩
    refine ⟨by omega, ?_⟩
    rcases hn.how with ha | ⟨s1, p1, _⟩
    · rcases Nat.lt_trichotomy j (a.length + 1 + x.length) with q | q | q
      · exact q
      · exfalso
        have e := hn.lv
        rw [q, pair_lv h] at e
        have := inner_more hb hF h hl h1 h2 hn.ki
        omega
      · have := ha.2 _ h2 q; rw [hpk] at this; cases this
    · obtain ⟨m, rfl⟩ : ∃ m, i = a.length + 1 + m := ⟨i - (a.length + 1), by omega⟩
      rw [al_inner a x d (by omega)] at s1
      have := (cl_st (h _ (by simp [List.getD, List.getElem?_eq_getElem (show m < x.length by omega)] : x.getD m 0 ∈ x))).1
      rw [this] at s1; cases s1
  · rintro ⟨h1, h2⟩
    refine ⟨?_, by omega⟩
    rcases Nat.lt_trichotomy i a.length with q | q | q
    · exfalso
      rcases hn.how with ha | ⟨s1, p1, _⟩
      · have := ha.2 _ q h1; rw [hik] at this; cases this
      · have := ou_partner (a := a) (d := d) h h (i := i) (i' := i) (.inl ⟨Nat.le_of_lt q, rfl⟩)
        rw [p1] at this
        rcases this with ⟨g, _⟩ | ⟨m, g, _⟩ <;> omega
    · exfalso
      have e := hn.lv
      rw [q] at e
      have := inner_more hb hF h hl h1 h2 hn.kj
      omega
    · exact q
theorem nx_out {b : Int} (hb : b = 0 ∨ b = 1) (hF : Formed (al a x d)) (hF' : Formed (al a x' d)) (h : Cl x) (h' : Cl x') (hl : (LV b (al a x d)).getD a.length 0 ≤ 123) {i i' j j' : Nat} (hi : Ou a.length x.length x'.length i i') (hj : Ou a.length x.length x'.length j j') (hn : Nx b (al a x d) i j) : Nx b (al a x' d) i' j' := by
  have hl' : (LV b (al a x' d)).getD a.length 0 ≤ 123 := by rw [← ou_LV b h h' (.inl ⟨Nat.le_refl _, rfl⟩)]; exact hl
  have hpk := pdi_kept hb a x d
  have hik := init_kept hb a x d
  have hup := hn.up
  -- the pair itself
  by_cases hp : i = a.length
  · subst hp
    have hj2 := nx_fun b _ _ _ _ hn (nx_pair hb hF h hl)
    subst hj2
    have e1 := hi.fun (.inl ⟨Nat.le_refl _, rfl⟩)
    have e2 := hj.fun (.inr ⟨0, rfl, rfl⟩)
    rw [e1, e2]
    exact nx_pair hb hF' h' hl'
  · have hlv : (LV b (al a x' d)).getD i' 0 = (LV b (al a x' d)).getD j' 0 := by rw [← ou_LV b h h' hi, ← ou_LV b h h' hj]; exact hn.lv
    refine ⟨by rw [← ou_kp b h h' hi]; exact hn.ki, by rw [← ou_kp b h h' hj]; exact hn.kj, (ou_len hj).1 hn.lt, hlv, ?_⟩
    rcases hn.how with ha | ⟨s1, p1, n1⟩
    · refine .inl (adj_out h h' hi hj ?_ ha)
      rcases Nat.lt_or_ge i a.length with q | q
      · refine .inl ?_
        rcases Nat.lt_or_ge a.length j with q2 | q2
        · have := ha.2 _ q q2; rw [hik] at this; cases this
        · exact q2
      · refine .inr ?_
        rcases hi with ⟨g, _⟩ | ⟨m, g, _⟩ <;> omega
    · refine .inr ⟨by rw [← ou_getD hi]; exact s1, ?_, fun z z1 z2 z3 => ?_⟩
      · have := ou_partner (d := d) h h' hi
        rw [p1] at this
        exact this.fun hj
      · have hz : ∃ q, Ou a.length x.length x'.length q z ∧ (q ≤ a.length ∨ a.length + 1 + x.length ≤ i) := by
          rcases hi with ⟨g, rfl⟩ | ⟨m, g1, g2⟩
          · have hzl : z ≤ a.length := by
              rcases Nat.lt_or_ge a.length z with q2 | q2
              · have := z1.2 a.length (by omega) q2; rw [init_kept hb a x' d] at this; cases this
              · exact q2
            exact ⟨z, .inl ⟨hzl, rfl⟩, .inl hzl⟩
          · have := z1.1
            exact ⟨a.length + 1 + x.length + (z - (a.length + 1 + x'.length)), .inr ⟨z - (a.length + 1 + x'.length), rfl, by omega⟩, .inr (by omega)⟩
        obtain ⟨q, hq, hq2⟩ := hz
        rw [← ou_LV b h h' hq, ← ou_LV b h h' hi]
        refine n1 q (adj_out h' h hi.flip hq.flip ?_ z1) ((ou_len hq).2 z2) (by rw [ou_kp b h h' hq]; exact z3)
        rcases hq2 with g | g
        · rcases hq with ⟨_, rfl⟩ | ⟨m, g1, g2⟩
          · exact .inl g
          · omega
        · rcases hi with ⟨g1, _⟩ | ⟨m, g1, g2⟩
          · omega
          · exact .inr (by omega)
/-- WHAT LIES IN AN ISOLATE CHANGES NO LEVEL OUTSIDE. -/
theorem hide_cor {b : Int} (hb : b = 0 ∨ b = 1) (hF : Formed (al a x d)) (hF' : Formed (al a x' d)) (h : Cl x) (h' : Cl x') (hl : (LV b (al a x d)).getD a.length 0 ≤ 123) {l l' : List Int} (htx : ∀ i i', Ou a.length x.length x'.length i i' → l.getD i 0 = l'.getD i' 0) :
    Cor (fun i i' => (i < (al a x d).length ∧ kp (LV b (al a x d)) i = true) ∧ Ou a.length x.length x'.length i i') b (al a x d) l (al a x' d) l' := by
  have hl' : (LV b (al a x' d)).getD a.length 0 ≤ 123 := by rw [← ou_LV b h h' (.inl ⟨Nat.le_refl _, rfl⟩)]; exact hl
  have noti : ∀ {i i' : Nat}, Ou a.length x.length x'.length i i' → ¬ (a.length < i ∧ i < a.length + 1 + x.length) := fun hr => by
    rcases hr with ⟨g, _⟩ | ⟨m, g, _⟩ <;> omega
  have noti' : ∀ {i i' : Nat}, Ou a.length x.length x'.length i i' → ¬ (a.length < i' ∧ i' < a.length + 1 + x'.length) := fun hr => by
    rcases hr with ⟨g, _⟩ | ⟨m, _, g⟩ <;> omega
  refine ⟨⟨?_, ?_⟩, ⟨?_, ?_⟩, ?_, ?_, ?_, ?_, ?_, ?_⟩
  · rintro i i' j ⟨_, hr⟩ hn
    obtain ⟨j', hj⟩ := (outer_or a.length x.length x'.length j).resolve_right (fun q => noti hr ((nx_closed hb hF h hl hn).2 q))
    exact ⟨j', ⟨⟨hn.lt, hn.kj⟩, hj⟩, nx_out hb hF hF' h h' hl hr hj hn⟩
  · rintro i i' j ⟨⟨h1, _⟩, hr⟩ hn
    obtain ⟨j', hj⟩ := (outer_or a.length x.length x'.length j).resolve_right (fun q => noti hr ((nx_closed hb hF h hl hn).1 q))
    exact ⟨j', ⟨⟨by have := hn.up; omega, hn.ki⟩, hj⟩, nx_out hb hF hF' h h' hl hj hr hn⟩
  · rintro i' i j' ⟨_, hr⟩ hn
    obtain ⟨j, hj⟩ := (outer_or a.length x'.length x.length j').resolve_right (fun q => noti' hr ((nx_closed hb hF' h' hl' hn).2 q))
    exact ⟨j, ⟨⟨(ou_len hj).1 hn.lt, by rw [← ou_kp b h' h hj]; exact hn.kj⟩, hj.flip⟩, nx_out hb hF' hF h' h hl' hr.flip hj hn⟩
  · rintro i' i j' ⟨⟨h1, _⟩, hr⟩ hn
    obtain ⟨j, hj⟩ := (outer_or a.length x'.length x.length j').resolve_right (fun q => noti' hr ((nx_closed hb hF' h' hl' hn).1 q))
    have h1' := (ou_len (d := d) hr).1 h1
    exact ⟨j, ⟨⟨(ou_len hj).1 (by have := hn.up; omega), by rw [← ou_kp b h' h hj]; exact hn.ki⟩, hj.flip⟩, nx_out hb hF' hF h' h hl' hj hr.flip hn⟩
  · rintro i i' ⟨⟨h1, h2⟩, hr⟩
    exact ⟨⟨h1, h2⟩, (ou_len hr).1 h1, by rw [← ou_kp b h h' hr]; exact h2⟩
  · rintro i i' ⟨_, hr⟩; exact ou_LV b h h' hr
  · rintro i i' ⟨_, hr⟩; exact ou_TY b h h' hr
  · rintro i i' ⟨_, hr⟩; exact htx i i' hr
  · rintro i i' ⟨⟨h1, h2⟩, hr⟩ hno v hv
    have hne : i ≠ a.length + 1 + x.length := fun e => hno _ (by rw [e]; exact nx_pair hb hF h hl)
    rcases hv with ⟨j, k1, a1, rfl⟩ | ⟨n1, rfl⟩
    · have hj : (∃ j', Ou a.length x.length x'.length j j') ∧ (i ≤ a.length ∨ a.length + 1 + x.length ≤ j) := by
        rcases hr with ⟨g, _⟩ | ⟨m, g, _⟩
        · have := a1.1
          exact ⟨⟨j, .inl ⟨by omega, rfl⟩⟩, .inl g⟩
        · have hjj : a.length + 1 + x.length ≤ j := by
            rcases Nat.lt_or_ge j (a.length + 1 + x.length) with q | q
            · have := a1.2 _ q (by omega); rw [pdi_kept hb a x d] at this; cases this
            · exact q
          exact ⟨⟨a.length + 1 + x'.length + (j - (a.length + 1 + x.length)), .inr ⟨j - (a.length + 1 + x.length), by omega, rfl⟩⟩, .inr hjj⟩
      obtain ⟨⟨j', hj⟩, hside⟩ := hj
      exact .inl ⟨j', by rw [← ou_kp b h h' hj]; exact k1, adj_out h h' hj hr hside a1, ou_LV b h h' hj⟩
    · refine .inr ⟨fun z hz => ?_, rfl⟩
      have hi : i ≤ a.length := by
        rcases Nat.lt_or_ge a.length i with q | q
        · have := n1 _ q; rw [init_kept hb a x d] at this; cases this
        · exact q
      rcases hr with ⟨_, rfl⟩ | ⟨m, g, _⟩
      · rw [← ou_kp _ h h' (.inl ⟨by omega, rfl⟩)]
        exact n1 z hz
      · omega
  · rintro i i' ⟨⟨h1, h2⟩, hr⟩ hno v hv
    have hne : i ≠ a.length := fun e => hno _ (by rw [e]; exact nx_pair hb hF h hl)
    rcases hv with ⟨s1, rfl⟩ | ⟨s1, hv⟩
    · exact .inl ⟨by rw [← ou_getD hr]; exact s1, rfl⟩
    · refine .inr ⟨by rw [← ou_getD hr]; exact s1, ?_⟩
      rcases hv with ⟨j, l1, k1, a1, rfl⟩ | ⟨n1, rfl⟩
      · have hj : (∃ j', Ou a.length x.length x'.length j j') ∧ (j ≤ a.length ∨ a.length + 1 + x.length ≤ i) := by
          rcases hr with ⟨g, _⟩ | ⟨m, g, _⟩
          · have hjj : j ≤ a.length := by
              rcases Nat.lt_or_ge a.length j with q | q
              · have := a1.2 _ (by omega) q; rw [init_kept hb a x d] at this; cases this
              · exact q
            exact ⟨⟨j, .inl ⟨hjj, rfl⟩⟩, .inl hjj⟩
          · have := a1.1
            exact ⟨⟨a.length + 1 + x'.length + (j - (a.length + 1 + x.length)), .inr ⟨j - (a.length + 1 + x.length), by omega, rfl⟩⟩, .inr (by omega)⟩
        obtain ⟨⟨j', hj⟩, hside⟩ := hj
        exact .inl ⟨j', (ou_len hj).1 l1, by rw [← ou_kp b h h' hj]; exact k1, adj_out h h' hr hj hside a1, ou_LV b h h' hj⟩
      · refine .inr ⟨fun z z1 z2 => ?_, rfl⟩
        rcases hr with ⟨g, _⟩ | ⟨m, g1, g2⟩
        · have := n1 a.length (by omega) (by rw [al_len]; omega); rw [init_kept hb a x d] at this; cases this
        · have hz : Ou a.length x.length x'.length (a.length + 1 + x.length + (z - (a.length + 1 + x'.length))) z := .inr ⟨z - (a.length + 1 + x'.length), rfl, by omega⟩
          rw [← ou_kp _ h h' hz]
          exact n1 _ (by omega) ((ou_len hz).2 z2)
theorem hide_level {b : Int} (hb : b = 0 ∨ b = 1) (hF : Formed (al a x d)) (hF' : Formed (al a x' d)) (h : Cl x) (h' : Cl x') (hl : (LV b (al a x d)).getD a.length 0 ≤ 123) {l l' : List Int} (htx : ∀ i i', Ou a.length x.length x'.length i i' → l.getD i 0 = l'.getD i' 0)
    (f : List Int → List Int → Int → Int → Int → List Int) {i i' : Nat} (hi : i < (al a x d).length) (hr : Ou a.length x.length x'.length i i') : PV f l b (al a x d) i = PV f l' b (al a x' d) i' := by
  cases hk : kp (LV b (al a x d)) i with
  | true => exact (hide_cor hb hF hF' h h' hl htx).level hb hF hF' f ⟨⟨hi, hk⟩, hr⟩
  | false => rw [PV_gone hb hF f _ hk, PV_gone hb hF' f _ (by rw [← ou_kp b h h' hr]; exact hk)]
/-- What stands at outer places of a text. -/
theorem tx_ou {la lx lx' ld : List Int} {y z : Int} {i i' : Nat} (h : Ou la.length lx.length lx'.length i i') : (la ++ y :: (lx ++ z :: ld)).getD i 0 = (la ++ y :: (lx' ++ z :: ld)).getD i' 0 := by
  have e : ∀ (q : List Int) (m : Nat), (la ++ y :: (q ++ z :: ld)).getD (la.length + 1 + q.length + m) 0 = (z :: ld).getD m 0 := fun q m => by
    simp only [List.getD]
    rw [List.getElem?_append_right (by omega), show la.length + 1 + q.length + m - la.length = q.length + m + 1 from by omega, List.getElem?_cons_succ, List.getElem?_append_right (by omega), show q.length + m - q.length = m from by omega]
  rcases h with ⟨h1, rfl⟩ | ⟨m, rfl, rfl⟩
  · rcases Nat.lt_or_ge i' la.length with h2 | h2
    · simp only [List.getD]
      rw [List.getElem?_append_left h2, List.getElem?_append_left h2]
    · obtain rfl : i' = la.length := by omega
      simp [List.getD]
  · rw [e, e]
theorem formed_al (h : Cl x) (h' : Cl x') (hf : Formed (al a x d)) : Formed (al a x' d) := by
  intro k hk
  rcases outer_or a.length x'.length x.length k with ⟨q, hq⟩ | ⟨g1, g2⟩
  · obtain ⟨f1, f2, f3⟩ := hf q ((ou_len hq).1 hk)
    rw [← ou_getD hq] at f1 f2 f3
    refine ⟨f1, f2, fun e => ?_⟩
    have := f3 e
    rw [al_len] at this ⊢
    rcases hq with ⟨_, rfl⟩ | ⟨m, rfl, rfl⟩ <;> omega
  · obtain ⟨m, rfl⟩ : ∃ m, k = a.length + 1 + m := ⟨k - (a.length + 1), by omega⟩
    have hm : m < x'.length := by omega
    rw [al_inner a x' d hm]
    have := h' (x'.getD m 0) (by simp [List.getD, List.getElem?_eq_getElem hm])
    exact ⟨by omega, by omega, fun e => absurd e this.2.2⟩
end
end Go.Proofs.YtfadjgaledddjaaGreatDoor.Rn

/- Two texts that are unlike in an isolate alone: plain mathematics. -/
namespace Go.Proofs.YtfadjgaledddjaaGreatDoor.Rn
set_option linter.unusedVariables false
open Ex (lev LV TY rm Formed)
/-- A text with an isolate. -/
def wr3 (la lx ld : List Int) : List Int := la ++ 8294 :: (lx ++ 8297 :: ld)
theorem wr3_len (la lx ld : List Int) : (wr3 la lx ld).length = la.length + 1 + lx.length + 1 + ld.length := by simp [wr3]; omega
theorem wr3_cl (la lx ld : List Int) : cl (wr3 la lx ld) = al (cl la) (cl lx) (cl ld) := by
  have h1 : Ucd.cls 8294 = 20 := by decide +kernel
  have h2 : Ucd.cls 8297 = 23 := by decide +kernel
  simp [cl, wr3, al, h1, h2]
/-- What may lie in it. -/
def inn (x : Int) : Bool := decide (1 ≤ Ucd.cls x) && decide (Ucd.cls x ≤ 19) && !decide (Ucd.cls x = 11)
def clo (l : List Int) : List Int := l.filter inn
theorem clo_Cl (l : List Int) : Cl (cl (clo l)) := by
  intro y hy
  obtain ⟨x, hx, rfl⟩ := List.mem_map.1 hy
  have := (List.mem_filter.1 hx).2
  unfold inn at this
  simp only [Bool.and_eq_true, decide_eq_true_eq, Bool.not_eq_true', decide_eq_false_iff_not] at this
  exact ⟨this.1.1, this.1.2, this.2⟩
theorem clo_len (l : List Int) : (clo l).length ≤ l.length := List.length_filter_le _ _
theorem clo_succ (l : List Int) {k : Nat} (hk : k < l.length) : clo (l.take (k + 1)) = clo (l.take k) ++ (if inn (l.getD k 0) = true then [l.getD k 0] else []) := by
  unfold clo
  rw [List.take_succ_eq_append_getElem hk, List.filter_append, show l.getD k 0 = l[k] from by simp [List.getD, hk]]
  congr 1
  cases h : inn l[k] <;> simp [h]
theorem PV_ge {b : Int} {c : List Int} (hb : b = 0 ∨ b = 1) (hF : Formed c) {f : List Int → List Int → Int → Int → Int → List Int} (hf : Fine f) (l : List Int) {i : Nat} (hi : i < c.length) (hk : kp (LV b c) i = true) : (LV b c).getD i 0 ≤ PV f l b c i := by
  obtain ⟨s, hs, hmem⟩ := SQ_cover hb hF hi hk
  have hE := SQ_ends hb hF s hs
  obtain ⟨m, hm, rfl⟩ := Lv.mem_getD hmem
  rw [PV_at hb hF f l hs hm]
  obtain ⟨v, _, e1⟩ := hE.sos
  obtain ⟨u, _, e2⟩ := hE.eos
  have hl := (hE.kept _ (getD_mem hm)).2.2
  have hh := LV_hi hb hi hk
  rw [hl] at hh
  have := hf.range (pk l s.places) (pk (TY b c) s.places) s.lvl s.sos s.eos (by omega) hh.2 (by rw [e1]; exact sd_two _ _) (by rw [e2]; exact sd_two _ _) m (by rw [pk_len]; exact hm)
  rw [hl]
  exact this.1
theorem hide_PA {la lx lx' ld : List Int} {base m m' : Int} {L L' : List Int} {E E' : Int} (h : PA (wr3 la lx ld) base m L E) (h' : PA (wr3 la lx' ld) base m' L' E') (hx : Cl (cl lx)) (hx' : Cl (cl lx')) (hn : (wr3 la lx ld).length ≤ 4096) (hn' : (wr3 la lx' ld).length ≤ 4096) :
    E = E' ∧ (E = 0 → (L.length = la.length + 1 + lx.length + 1 + ld.length ∧ L'.length = la.length + 1 + lx'.length + 1 + ld.length) ∧ m = m' ∧ (L.getD la.length 0 ≤ 123 → L.take (la.length + 1) = L'.take (la.length + 1) ∧ L.drop (la.length + 1 + lx.length) = L'.drop (la.length + 1 + lx'.length))) := by
  have hFF : Formed (cl (wr3 la lx ld)) ↔ Formed (cl (wr3 la lx' ld)) := by
    rw [wr3_cl, wr3_cl]
    exact ⟨formed_al hx hx', formed_al hx' hx⟩
  rcases h with ⟨hb, rfl, rfl, rfl⟩ | ⟨hb, hbig, _⟩ | ⟨hb, _, hF, rfl, rfl, rfl⟩ | ⟨hb, _, hF, rfl, rfl, rfl⟩
  · rcases h' with ⟨_, _, _, rfl⟩ | ⟨q, _⟩ | ⟨q, _⟩ | ⟨q, _⟩
    · exact ⟨rfl, fun e => absurd e (by decide)⟩
    all_goals exact absurd q hb
  · omega
  · rcases h' with ⟨q, _⟩ | ⟨_, q, _⟩ | ⟨_, _, _, _, _, rfl⟩ | ⟨_, _, q, _⟩
    · exact absurd hb q
    · omega
    · exact ⟨rfl, fun e => absurd e (by decide)⟩
    · exact absurd (hFF.2 q) hF
  · rcases h' with ⟨q, _⟩ | ⟨_, q, _⟩ | ⟨_, _, q, _⟩ | ⟨_, _, hF', rfl, rfl, rfl⟩
    · exact absurd hb q
    · omega
    · exact absurd (hFF.1 hF) q
    · have hbl : bl base (wr3 la lx' ld) = bl base (wr3 la lx ld) := by
        unfold bl
        rw [wr3_cl, wr3_cl, bso_al hx hx']
      have hb2 := bl_two hb (wr3 la lx ld)
      rw [hbl]
      generalize bl base (wr3 la lx ld) = b at *
      have l1 : (VS (wr3 la lx ld) b).length = la.length + 1 + lx.length + 1 + ld.length := by rw [VS_len, wr3_len]
      have l2 : (VS (wr3 la lx' ld) b).length = la.length + 1 + lx'.length + 1 + ld.length := by rw [VS_len, wr3_len]
      refine ⟨rfl, fun _ => ⟨⟨l1, l2⟩, rfl, fun hl => ?_⟩⟩
      have e1 : (cl la).length = la.length := cl_len la
      have e2 : (cl lx).length = lx.length := cl_len lx
      have e3 : (cl lx').length = lx'.length := cl_len lx'
      rw [wr3_cl] at hF hF'
      have hc : la.length < (wr3 la lx ld).length := by rw [wr3_len]; omega
      have hlv : (LV b (al (cl la) (cl lx) (cl ld))).getD (cl la).length 0 ≤ 123 := by
        have hk := init_kept hb2 (cl la) (cl lx) (cl ld)
        have h1 := PV_ge hb2 hF fine13 (wr3 la lx ld) (i := (cl la).length) (by rw [al_len]; omega) hk
        rw [VS_at _ _ hc, wr3_cl] at hl
        rw [e1] at h1 ⊢
        omega
      have key : ∀ i i', Ou la.length lx.length lx'.length i i' → i < (wr3 la lx ld).length → i' < (wr3 la lx' ld).length → (VS (wr3 la lx ld) b).getD i 0 = (VS (wr3 la lx' ld) b).getD i' 0 := by
        intro i i' hr hi hi'
        rw [VS_at _ _ hi, VS_at _ _ hi', wr3_cl, wr3_cl]
        refine hide_level hb2 hF hF' hx hx' hlv (l := wr3 la lx ld) (l' := wr3 la lx' ld) (fun j j' hj => ?_) F13 ?_ ?_
        · rw [e1, e2, e3] at hj
          exact tx_ou hj
        · rw [al_len, e1, e2, cl_len]
          rw [wr3_len] at hi
          exact hi
        · rw [e1, e2, e3]; exact hr
      constructor
      · refine ext_getD (by rw [List.length_take, List.length_take, l1, l2]; omega) fun j hj => ?_
        have hj2 : j < la.length + 1 := by rw [List.length_take, l1] at hj; omega
        have := key j j (.inl ⟨by omega, rfl⟩) (by rw [wr3_len]; omega) (by rw [wr3_len]; omega)
        simp only [List.getD_eq_getElem?_getD] at this ⊢
        rw [List.getElem?_take_of_lt hj2, List.getElem?_take_of_lt hj2]
        exact this
      · refine ext_getD (by rw [List.length_drop, List.length_drop, l1, l2]; omega) fun j hj => ?_
        have hj2 : j < 1 + ld.length := by rw [List.length_drop, l1] at hj; omega
        have := key (la.length + 1 + lx.length + j) (la.length + 1 + lx'.length + j) (.inr ⟨j, rfl, rfl⟩) (by rw [wr3_len]; omega) (by rw [wr3_len]; omega)
        simp only [List.getD_eq_getElem?_getD] at this ⊢
        rw [List.getElem?_drop, List.getElem?_drop]
        exact this
end Go.Proofs.YtfadjgaledddjaaGreatDoor.Rn

/- An append of a row, and what it leaves as it was. -/
namespace Go.Proofs.YtfadjgaledddjaaGreatDoor
open Go.RowKit
set_option linter.unusedVariables false
theorem grown_refl (w : World) (g : Option Nat) : w.grownBy w g := ⟨rfl, rfl, rfl, Nat.le_refl _, fun _ _ _ => rfl⟩
/-- A row in a block that an append did not grow. -/
theorem Row.grown {k : IntKind} {w w' : World} {b off n cap : Nat} {zs : List Int} {own : Option Nat} (h : Row k w (some ⟨b, off, none⟩) n cap zs) (hg : w.grownBy w' own) (hne : own ≠ some b) : Row k w' (some ⟨b, off, none⟩) n cap zs := by
  refine ⟨h.len, h.le, h.max, fun h0 => ?_, h.nil⟩
  obtain ⟨b2, o2, e, hb, hc⟩ := h.cells h0
  simp only [Option.some.injEq, Addr.mk.injEq, and_true] at e
  obtain ⟨rfl, rfl⟩ := e
  obtain ⟨_, _, _, hs, hk⟩ := hg
  have hh := hk b hb (fun e => hne e.symm)
  exact ⟨b, off, rfl, Nat.lt_of_lt_of_le hb hs, fun i hi => by
    have := hc i hi
    simp only [World.cell?] at this ⊢
    rw [hh]
    exact this⟩
theorem grown_ko {w1 W w2 : World} {e n : Nat} {v : Value} {xs : List Value} (hk : KO w1 W) (hown : W.ownsRow w1.heap.size e 1 v n xs) (hg : W.grownBy w2 v.ownBlock) : KO w1 w2 :=
  Below.grown hk hg hk.size (fun j hj => (hown.lt j hj).1)
theorem wp_append_rowG {P : Program} (w : World) {o : Oper} {a : Act} {K : Act → World → Prop} {Q : Exit → Act → World → Prop} (s x : Operand) (t : TypeId)
    (ho : o.op = .call { callee := .builtin .append, args := #[s, x], argTypes := #[t, t] })
    (base : Nat) (e : TypeId) (i : TypeInfo) (z : Value) (bytes : Nat) (ht : P.underlying t = some (.slice e)) (hi : P.info? e = some i) (hz : i.zero = some z)
    (hsize : i.size = 1) (hby : i.bytes = bytes) (hzs : z.cells.size = 1)
    (v : Value) (n : Nat) (xs : List Value) (hs : a.eval s = v) (hown : w.ownsRow base e 1 v n xs)
    (k : IntKind) (ao : Option Addr) (m c : Nat) (zs : List Int) (hx : a.eval x = .slice ao m c) (hrow : Row k w ao m c zs)
    (hbytes : (n + m) * bytes ≤ 140737488355328) (hb1 : 1 ≤ bytes) (hbase : base ≤ w.heap.size)
    (h : ∀ v' w', w'.ownsRow base e 1 v' (n + m) (xs ++ zs.map (Value.int k)) → w.grownBy w' v.ownBlock → K (a.put o.dst v') w') : o.wp P a w K Q := by
  have h63 : n + m ≤ maxLen := by
    have : (n + m) * 1 ≤ (n + m) * bytes := Nat.mul_le_mul_left _ hb1
    unfold maxLen; omega
  cases ao with
  | none =>
    have hc := hrow.nil rfl
    have hm : m = 0 := by have := hrow.le; omega
    subst hc hm
    have hzs0 : zs = [] := List.length_eq_zero_iff.1 hrow.len
    subst hzs0
    have hrun := run_append_owned_none (P := P) (w := w) base t o.type e i 1 ht hi v n xs hown
    have hK := h v w (by simpa using hown) (grown_refl _ _)
    unfold Oper.wp
    simp [execOp, ho, resolve, invoke, builtin, hs, hx, hrun, Result.andThen]
    exact hK
  | some ad =>
    refine wp_append_own w s x t ho base e i z 1 bytes ht hi hz hsize hby hzs (by decide) v n xs hs hown ad m c (zs.map (Value.int k)) hx (by simp [hrow.len]) ?_ (ints_oneCell k zs) h63 hbytes hbase (fun v' w' h1 h2 _ => h v' w' h1 h2)
    intro j u hj
    have hjl : j < zs.length := by
      have := (List.getElem?_eq_some_iff.1 hj).1
      simpa using this
    have hl := hrow.len
    obtain ⟨b, off, e1, _, hc⟩ := hrow.cells (by omega)
    simp only [Option.some.injEq] at e1
    subst e1
    have hadd : (⟨b, off, none⟩ : Addr).add j = ⟨b, off + j, none⟩ := by unfold Addr.add; split <;> simp_all
    rw [hadd, hc j hjl]
    rw [List.getElem?_map, List.getElem?_eq_getElem hjl] at hj
    simp only [Option.map_some, Option.some.injEq] at hj
    rw [← hj]
    simp [List.getD, List.getElem?_eq_getElem hjl]
/-- The same at a step of a region that draws its order. -/
theorem step_append_rowG {P : Program} (w : World) {ops : Array Oper} {o : Oper} {a : Act} {K : Act → World → Prop} {Q : Exit → Act → World → Prop} {E : Prop} (hgd : o.guard = none) (s x : Operand) (t : TypeId)
    (ho : o.op = .call { callee := .builtin .append, args := #[s, x], argTypes := #[t, t] })
    (base : Nat) (e : TypeId) (i : TypeInfo) (z : Value) (bytes : Nat) (ht : P.underlying t = some (.slice e)) (hi : P.info? e = some i) (hz : i.zero = some z)
    (hsize : i.size = 1) (hby : i.bytes = bytes) (hzs : z.cells.size = 1)
    (v : Value) (n : Nat) (xs : List Value) (hs : a.eval s = v) (hown : w.ownsRow base e 1 v n xs)
    (k : IntKind) (ao : Option Addr) (m c : Nat) (zs : List Int) (hx : a.eval x = .slice ao m c) (hrow : Row k w ao m c zs)
    (hbytes : (n + m) * bytes ≤ 140737488355328) (hb1 : 1 ≤ bytes) (hbase : base ≤ w.heap.size)
    (h : ∀ v' w', w'.ownsRow base e 1 v' (n + m) (xs ++ zs.map (Value.int k)) → w.grownBy w' v.ownBlock → K (a.put o.dst v') w') :
    if Region.wanted o (yielded ops a.tmps) = true then Oper.wp P o a w K Q else E := by
  have hw : Region.wanted o (yielded ops a.tmps) = true := by simp [Region.wanted, hgd]
  rw [if_pos hw]
  exact wp_append_rowG w s x t ho base e i z bytes ht hi hz hsize hby hzs v n xs hs hown k ao m c zs hx hrow hbytes hb1 hbase h
/-- The same in a list of operations. -/
theorem wpList_append_rowG {P : Program} (w : World) {ops : Array Oper} {rest : List Oper} {o : Oper} {a : Act} {Q : Exit → Act → World → Prop} (hw : Region.wanted o (yielded ops a.tmps) = true) (s x : Operand) (t : TypeId)
    (ho : o.op = .call { callee := .builtin .append, args := #[s, x], argTypes := #[t, t] })
    (base : Nat) (e : TypeId) (i : TypeInfo) (z : Value) (bytes : Nat) (ht : P.underlying t = some (.slice e)) (hi : P.info? e = some i) (hz : i.zero = some z)
    (hsize : i.size = 1) (hby : i.bytes = bytes) (hzs : z.cells.size = 1)
    (v : Value) (n : Nat) (xs : List Value) (hs : a.eval s = v) (hown : w.ownsRow base e 1 v n xs)
    (k : IntKind) (ao : Option Addr) (m c : Nat) (zs : List Int) (hx : a.eval x = .slice ao m c) (hrow : Row k w ao m c zs)
    (hbytes : (n + m) * bytes ≤ 140737488355328) (hb1 : 1 ≤ bytes) (hbase : base ≤ w.heap.size)
    (h : ∀ v' w', w'.ownsRow base e 1 v' (n + m) (xs ++ zs.map (Value.int k)) → w.grownBy w' v.ownBlock → wpList P ops Q rest (a.put o.dst v') w') : wpList P ops Q (o :: rest) a w :=
  BigFrame.wpList_want hw fun K hK => wp_append_rowG w s x t ho base e i z bytes ht hi hz hsize hby hzs v n xs hs hown k ao m c zs hx hrow hbytes hb1 hbase fun v' w' h1 h2 => hK _ _ (h v' w' h1 h2)
end Go.Proofs.YtfadjgaledddjaaGreatDoor

/- closed, around: their contracts. -/
namespace Go.Proofs.YtfadjgaledddjaaGreatDoor
open Go.RowKit
set_option linter.unusedVariables false
set_option maxHeartbeats 2000000
set_option maxRecDepth 100000
theorem inn_cases (x : Int) : (Rn.inn x = true ∧ 1 ≤ Ucd.cls x ∧ Ucd.cls x ≤ 19 ∧ ¬ Ucd.cls x = 11) ∨ (Rn.inn x = false ∧ ¬ 1 ≤ Ucd.cls x) ∨ (Rn.inn x = false ∧ 1 ≤ Ucd.cls x ∧ ¬ Ucd.cls x ≤ 19) ∨ (Rn.inn x = false ∧ 1 ≤ Ucd.cls x ∧ Ucd.cls x ≤ 19 ∧ Ucd.cls x = 11) := by
  unfold Rn.inn
  by_cases h1 : 1 ≤ Ucd.cls x
  · by_cases h2 : Ucd.cls x ≤ 19
    · by_cases h3 : Ucd.cls x = 11
      · exact .inr (.inr (.inr ⟨by simp [h3], h1, h2, h3⟩))
      · exact .inl ⟨by simp [h1, h2, h3], h1, h2, h3⟩
    · exact .inr (.inr (.inl ⟨by simp [h2], h1, h2⟩))
  · exact .inr (.inl ⟨by simp [h1], h1⟩)
theorem closed_any (ao : Option Addr) (n cap : Nat) (l : List Int) (w : World) (h : Row .i32 w ao n cap l) (hf : ∀ x ∈ l, (Lit.int .i32 x).wf = true) (hn : n ≤ 300) :
    Calls Tryz.prog 17 #[.slice ao n cap] w fun e w' => ∃ a1 c1, e = .returned (.slice a1 (Rn.clo l).length c1) ∧ Row .i32 w' a1 (Rn.clo l).length c1 (Rn.clo l) ∧ KO w w' := by
  obtain ⟨ir, hir, hz0, hz1, hz2⟩ := info_parts infoRune12
  have HIR : Hid (Tryz.prog.info? 21 = some ir) := hir
  have HZ0 := hide hz0
  have HZ1 := hide hz1
  have HZ2 := hide hz2
  have H := hide h
  have HL := hide h.len
  have HC := hide (classes_any ao n cap l w h hf (by omega))
  have HAT := hide (fun i (hi : i < n) => Rn.cl_at l (show i < l.length by have := h.len; omega))
  have HCLN := hide (show (Rn.cl l).length = n from by rw [Rn.cl_len, h.len])
  have HSU := hide (fun k (hk : k < n) => Rn.clo_succ l (k := k) (by have := h.len; omega))
  have HLE := hide (fun k => Rn.clo_len (l.take k))
  have HEND := hide (show l.take n = l from List.take_of_length_le (by rw [h.len]; exact Nat.le_refl _))
  clear h hf hir hz0 hz1 hz2
  go_enter Tryz.func17, Tryz.ntmps17
  go_wp2_with fail
  refine HC.out.mono ?_
  rintro e w1 ⟨rfl, hn1⟩
  obtain ⟨g, hg⟩ : ∃ g, w.heap.size = g := ⟨_, rfl⟩
  have HR1 := hide (show Row .i64 w1 (some ⟨g, 0, none⟩) n n (Rn.cl l) from by rw [← hg]; exact hn1.row)
  have HK1 := hide (show KO w w1 from hn1.bel)
  rw [hg]
  clear hn1 HC hg
  go_wp2
  go_loopw [3, 11] (fun s3 s11 wr => ∃ (k : Nat) (v3 : Value), v3 = s3 ∧ s11 = .int .i64 (k : Int) ∧ k ≤ n ∧ Hid (wr.ownsRow w1.heap.size 21 1 v3 (Rn.clo (l.take k)).length ((Rn.clo (l.take k)).map (Value.int .i32)) ∧ Below w1.heap.size w1 wr)) (fun _ s11 _ => n - (intOf s11).toNat)
  case atStart => exact ⟨0, _, rfl, rfl, Nat.zero_le _, hide ⟨World.ownsRow_nil _ _ _ _, Below.refl _ _⟩⟩
  case round =>
    obtain ⟨k, v3, hv3, rfl, hk, HT⟩ := hrel
    subst hv3
    by_cases hlt : k < n
    · have hin : (k : Int) < (n : Int) := by omega
      obtain ⟨b, off, rfl, hbl, hc⟩ := H.out.cells (by omega)
      have cl := (Below.cell (KO.on HK1.out HT.out.2) (by exact hbl)).trans (hc k (by rw [HL.out]; exact hlt))
      have cc := rowAt HR1.out HT.out.2 k hlt
      rw [Nat.zero_add, HAT.out k hlt] at cc
      have HS := hide (HSU.out k hlt)
      have hle := HLE.out k
      have hle2 : (Rn.clo (l.take k)).length ≤ 300 := by rw [List.length_take] at hle; omega
      have hcs := inn_cases (l.getD k 0)
      clear hc hle
      rcases hcs with ⟨hi, h1, h2, h3⟩ | ⟨hi, h1⟩ | ⟨hi, h1, h2⟩ | ⟨hi, h1, h2, h3⟩
      · rw [if_pos hi] at HS
        have h3b : (Ucd.cls (l.getD k 0) != 11) = true := bne_iff_ne.2 h3
        have HLN := hide (show (Rn.clo (l.take (k + 1))).length = (Rn.clo (l.take k)).length + 1 from by rw [HS.out, List.length_append]; rfl)
        clear hi
        generalize Ucd.cls (l.getD k 0) = x at *
        generalize l.getD k 0 = y at *
        generalize hm : (Rn.clo (l.take k)).length = m at *
        generalize Rn.clo (l.take k) = Ck at *
        clear hm
        go_wp2_with (at_builtin; refine wpList_append_one wr rfl (.tmp 41) (.tmp 43) 22 rfl w1.heap.size 21 ir _ 4 Tryz.underlying22 HIR.out HZ0.out HZ1.out HZ2.out rfl v3 m _ rfl (.int .i32 y) HT.out.1 _ rfl rfl rfl (by omega) (by omega) HT.out.2.size ?_; intro v4 w4 ho4 hg4; have HT4 := hide (And.intro ho4 (Below.grown (KO.alloc HT.out.2 (.cells #[.int .i32 y] 21)) hg4 (by simp; have := HT.out.2.size; omega) (fun j hj => (HT.out.1.lt j hj).1))); clear ho4 hg4)
        go_roundw
        case rel => exact ⟨k + 1, _, rfl, by go_num, by omega, by rw [HLN.out, HS.out, List.map_append]; exact HT4⟩
        case measure => simp [intOf]; omega
      all_goals
        rw [if_neg (by rw [hi]; decide), List.append_nil] at HS
        first
          | (have h3b : (Ucd.cls (l.getD k 0) != 11) = false := by rw [h3]; rfl
             clear h3)
          | skip
        clear hi
        generalize Ucd.cls (l.getD k 0) = x at *
        generalize l.getD k 0 = y at *
        go_wp2
        go_roundw
        case rel => exact ⟨k + 1, _, rfl, by go_num, by omega, by rw [HS.out]; exact HT⟩
        case measure => simp [intOf]; omega
    · obtain rfl : k = n := by omega
      have hne : ¬ ((k : Int) < (k : Int)) := by omega
      rw [HEND.out] at HT
      obtain ⟨a3, c3, rfl, r3⟩ := row_of_owns HT.out.1
      have HE := hide (And.intro r3 (KO.on HK1.out HT.out.2))
      clear HT r3
      go_wp2
      go_ret
      exact ⟨a3, c3, rfl, HE.out.1, HE.out.2⟩
theorem around_any (a0 a1 a2 : Option Addr) (n0 n1 n2 c0 c1 c2 : Nat) (la lx ld : List Int) (w : World) (h0 : Row .i32 w a0 n0 c0 la) (h1 : Row .i32 w a1 n1 c1 lx) (h2 : Row .i32 w a2 n2 c2 ld) (hn : n0 ≤ 300 ∧ n1 ≤ 300 ∧ n2 ≤ 300) :
    Calls Tryz.prog 18 #[.slice a0 n0 c0, .slice a1 n1 c1, .slice a2 n2 c2] w fun e w' => ∃ a c, e = .returned (.slice a (n0 + 1 + n1 + 1 + n2) c) ∧ Row .i32 w' a (n0 + 1 + n1 + 1 + n2) c (Rn.wr3 la lx ld) ∧ KO w w' := by
  obtain ⟨ir, hir, hz0, hz1, hz2⟩ := info_parts infoRune12
  have HIR : Hid (Tryz.prog.info? 21 = some ir) := hir
  have HZ0 := hide hz0
  have HZ1 := hide hz1
  have HZ2 := hide hz2
  obtain ⟨g1, g2, g3⟩ := hn
  have H0 := hide h0
  have H1 := hide h1
  have H2 := hide h2
  obtain ⟨W1, hW1⟩ : ∃ W1, w.alloc (.cells #[] 21) = W1 := ⟨_, rfl⟩
  have HK1 := hide (show KO w W1 from by rw [← hW1]; exact KO.alloc (KO.refl _) _)
  have HO1 := hide (show W1.ownsRow w.heap.size 21 1 (.slice (some ⟨w.heap.size, 0, none⟩) 0 0) 0 [] from by rw [← hW1]; exact owns_empty w 21 w.heap.size rfl)
  clear h0 h1 h2 hir hz0 hz1 hz2
  go_enter Tryz.func18, Tryz.ntmps18
  go_wp2_with (first
    | (at_builtin; refine wpList_append_row W1 (by rfl) (.tmp 8) (.tmp 9) 22 rfl w.heap.size 21 ir (.int .i32 0) 4 Tryz.underlying22 HIR.out HZ0.out HZ1.out HZ2.out rfl _ 0 _ rfl HO1.out .i32 a0 n0 c0 la rfl (H0.out.below HK1.out) (by omega) (by omega) HK1.out.size ?_; intro v2 w2 ho2 hb2; have HK2 := hide (show KO w w2 from Below.trans HK1.out hb2); have HO2 := hide ho2; clear ho2 hb2 hW1)
    | (at_builtin; refine wpList_append_row _ (by rfl) (.tmp 10) (.tmp 11) 22 rfl w.heap.size 21 ir (.int .i32 0) 4 Tryz.underlying22 HIR.out HZ0.out HZ1.out HZ2.out rfl v2 (0 + n0) _ rfl (HO2.out.alloc _) .i32 _ 1 1 [8294] rfl (row_lit .i32 w2 [8294] 21 (by decide)) (by omega) (by omega) (by have := HK2.out.size; simp; omega) ?_; intro v3 w3 ho3 hb3; have HK3 := hide (show KO w w3 from Below.trans (KO.alloc HK2.out _) hb3); have HO3 := hide ho3; clear ho3 hb3)
    | (at_builtin; refine wpList_append_row w3 (by rfl) (.tmp 13) (.tmp 14) 22 rfl w.heap.size 21 ir (.int .i32 0) 4 Tryz.underlying22 HIR.out HZ0.out HZ1.out HZ2.out rfl v3 (0 + n0 + 1) _ rfl HO3.out .i32 a1 n1 c1 lx rfl (H1.out.below HK3.out) (by omega) (by omega) HK3.out.size ?_; intro v4 w4 ho4 hb4; have HK4 := hide (show KO w w4 from Below.trans HK3.out hb4); have HO4 := hide ho4; clear ho4 hb4)
    | (at_builtin; refine wpList_append_row _ (by rfl) (.tmp 15) (.tmp 16) 22 rfl w.heap.size 21 ir (.int .i32 0) 4 Tryz.underlying22 HIR.out HZ0.out HZ1.out HZ2.out rfl v4 (0 + n0 + 1 + n1) _ rfl (HO4.out.alloc _) .i32 _ 1 1 [8297] rfl (row_lit .i32 w4 [8297] 21 (by decide)) (by omega) (by omega) (by have := HK4.out.size; simp; omega) ?_; intro v5 w5 ho5 hb5; have HK5 := hide (show KO w w5 from Below.trans (KO.alloc HK4.out _) hb5); have HO5 := hide ho5; clear ho5 hb5)
    | (at_builtin; refine wpList_append_row w5 (by rfl) (.tmp 18) (.tmp 19) 22 rfl w.heap.size 21 ir (.int .i32 0) 4 Tryz.underlying22 HIR.out HZ0.out HZ1.out HZ2.out rfl v5 (0 + n0 + 1 + n1 + 1) _ rfl HO5.out .i32 a2 n2 c2 ld rfl (H2.out.below HK5.out) (by omega) (by omega) HK5.out.size ?_; intro v6 w6 ho6 hb6; have HK6 := hide (show KO w w6 from Below.trans HK5.out hb6); have HO6 := hide ho6; clear ho6 hb6))
  have ho := HO6.out
  have hmap : [] ++ la.map (Value.int .i32) ++ [8294].map (Value.int .i32) ++ lx.map (Value.int .i32) ++ [8297].map (Value.int .i32) ++ ld.map (Value.int .i32) = (Rn.wr3 la lx ld).map (Value.int .i32) := by simp [Rn.wr3]
  rw [hmap, show 0 + n0 + 1 + n1 + 1 + n2 = n0 + 1 + n1 + 1 + n2 by omega] at ho
  obtain ⟨a6, c6, e6, r6⟩ := row_of_owns ho
  have HE := hide (And.intro r6 HK6.out)
  subst e6
  clear ho r6 hmap HO6 HK6 HO5 HO4 HO3 HO2
  go_ret
  exact ⟨a6, c6, rfl, HE.out.1, HE.out.2⟩
end Go.Proofs.YtfadjgaledddjaaGreatDoor

/- LevelsHides. -/
namespace Go.Proofs.YtfadjgaledddjaaGreatDoor
open Go.RowKit
set_option linter.unusedVariables false
set_option maxHeartbeats 2000000
set_option maxRecDepth 100000
theorem LevelsHides_walk (w : World) (hm : Marks w) (a0 : Option Addr) (n0 c0 : Nat) (la : List Int) (h0 : Row .i32 w a0 n0 c0 la) (f0 : ∀ x ∈ la, (Lit.int .i32 x).wf = true) (b0 : n0 * 4 ≤ 140737488351232)
    (a1 : Option Addr) (n1 c1 : Nat) (l1 : List Int) (h1 : Row .i32 w a1 n1 c1 l1) (f1 : ∀ x ∈ l1, (Lit.int .i32 x).wf = true) (b1 : n1 * 4 ≤ 140737488351232)
    (a2 : Option Addr) (n2 c2 : Nat) (l2 : List Int) (h2 : Row .i32 w a2 n2 c2 l2) (f2 : ∀ x ∈ l2, (Lit.int .i32 x).wf = true) (b2 : n2 * 4 ≤ 140737488351232)
    (a3 : Option Addr) (n3 c3 : Nat) (ld : List Int) (h3 : Row .i32 w a3 n3 c3 ld) (f3 : ∀ x ∈ ld, (Lit.int .i32 x).wf = true) (b3 : n3 * 4 ≤ 140737488351232) (base : Int) (f4 : (Lit.int .i64 base).wf = true) :
    Calls Tryz.prog 7 #[.slice a0 n0 c0, .agg #[.slice a1 n1 c1, .slice a2 n2 c2], .slice a3 n3 c3, .int .i64 base] w fun e w' => e = .returned (.bool true) ∧ Below w.heap.size w w' := by
  obtain ⟨W1, hW1⟩ : ∃ W1, w.alloc (.cells #[.slice a1 n1 c1, .slice a2 n2 c2] 38) = W1 := ⟨_, rfl⟩
  have hk1 : KO w W1 := by rw [← hW1]; exact KO.alloc (KO.refl _) _
  have hh : W1.heap[w.heap.size]? = some (.cells #[.slice a1 n1 c1, .slice a2 n2 c2] 38 (0, 0)) := by rw [← hW1]; exact heap_alloc_last w _
  obtain ⟨B, hB⟩ : ∃ B, w.heap.size = B := ⟨_, rfl⟩
  rw [hB] at hh
  have hX : ∀ W, KO W1 W → W.heap[B]? = some (.cells #[.slice a1 n1 c1, .slice a2 n2 c2] 38 (0, 0)) := fun W hk => (Below.block hk B (Array.getElem?_eq_some_iff.1 hh).1).trans hh
  have HX0 := hide (fun W (hk : KO W1 W) => (show W.cell? ⟨B, 0, none⟩ = some (.slice a1 n1 c1) from by simp [World.cell?, hX W hk]))
  have HX1 := hide (fun W (hk : KO W1 W) => (show W.cell? ⟨B, 1, none⟩ = some (.slice a2 n2 c2) from by simp [World.cell?, hX W hk]))
  have HW := hide (works12_any W1 (hm.below hk1))
  have HK1 := hide hk1
  by_cases hbig : 300 < n0 + n1 + n2 + n3
  · have e1 : IntKind.i64.wrap ((n0 : Int) + (n1 : Int)) = (n0 : Int) + (n1 : Int) := by rw [IntKind.wrap_i64]; omega
    have e2 : IntKind.i64.wrap ((n0 : Int) + (n1 : Int) + (n2 : Int)) = (n0 : Int) + (n1 : Int) + (n2 : Int) := by rw [IntKind.wrap_i64]; omega
    have e3 : IntKind.i64.wrap ((n0 : Int) + (n1 : Int) + (n2 : Int) + (n3 : Int)) = (n0 : Int) + (n1 : Int) + (n2 : Int) + (n3 : Int) := by rw [IntKind.wrap_i64]; omega
    have hbig' : (300 : Int) < (n0 : Int) + (n1 : Int) + (n2 : Int) + (n3 : Int) := by omega
    clear hm h0 f0 h1 f1 h2 f2 h3 f3 f4 hk1 hh hX
    go_enter Tryz.func7, Tryz.ntmps7
    go_wp2_with fail
    refine HW.out.mono ?_
    rintro e w1 ⟨rfl, hk⟩
    have x0 := HX0.out w1 hk
    have x1 := HX1.out w1 hk
    have HKE := hide (KO.on HK1.out hk)
    clear hk HW
    go_wp2
    go_ret
    exact ⟨rfl, HKE.out⟩
  · have e1 : IntKind.i64.wrap ((n0 : Int) + (n1 : Int)) = (n0 : Int) + (n1 : Int) := by rw [IntKind.wrap_i64]; omega
    have e2 : IntKind.i64.wrap ((n0 : Int) + (n1 : Int) + (n2 : Int)) = (n0 : Int) + (n1 : Int) + (n2 : Int) := by rw [IntKind.wrap_i64]; omega
    have e3 : IntKind.i64.wrap ((n0 : Int) + (n1 : Int) + (n2 : Int) + (n3 : Int)) = (n0 : Int) + (n1 : Int) + (n2 : Int) + (n3 : Int) := by rw [IntKind.wrap_i64]; omega
    have hbig' : ¬ (300 : Int) < (n0 : Int) + (n1 : Int) + (n2 : Int) + (n3 : Int) := by omega
    have hl0 := h0.len
    have hl1 := h1.len
    have hl2 := h2.len
    have hl3 := h3.len
    have hlx := Rn.clo_len l1
    have hly := Rn.clo_len l2
    have hwf : ∀ lx, (∀ x ∈ lx, (Lit.int .i32 x).wf = true) → ∀ x ∈ Rn.wr3 la lx ld, (Lit.int .i32 x).wf = true := fun lx hlx x hx => by
      unfold Rn.wr3 at hx
      simp only [List.mem_append, List.mem_cons] at hx
      rcases hx with hx | rfl | hx | rfl | hx
      · exact f0 x hx
      · decide
      · exact hlx x hx
      · decide
      · exact f3 x hx
    have fx : ∀ x ∈ Rn.clo l1, (Lit.int .i32 x).wf = true := fun x hx => f1 x (List.mem_filter.1 hx).1
    have fy : ∀ x ∈ Rn.clo l2, (Lit.int .i32 x).wf = true := fun x hx => f2 x (List.mem_filter.1 hx).1
    have HCA := hide (fun W (hk : KO W1 W) => closed_any a1 n1 c1 l1 W (h1.below (KO.on hk1 hk)) f1 (by omega))
    have HCB := hide (fun W (hk : KO W1 W) => closed_any a2 n2 c2 l2 W (h2.below (KO.on hk1 hk)) f2 (by omega))
    obtain ⟨m, L, E, hPA⟩ := Rn.PA_some (Rn.wr3 la (Rn.clo l1) ld) base
    obtain ⟨m', L', E', hPB⟩ := Rn.PA_some (Rn.wr3 la (Rn.clo l2) ld) base
    obtain ⟨hEE, hrest⟩ := Rn.hide_PA hPA hPB (Rn.clo_Cl l1) (Rn.clo_Cl l2) (by rw [Rn.wr3_len]; omega) (by rw [Rn.wr3_len]; omega)
    subst hEE
    rw [hl0, hl3] at hrest
    have HAX := hide (fun W ax cx (hk : KO W1 W) (hx : Row .i32 W ax (Rn.clo l1).length cx (Rn.clo l1)) => around_any a0 ax a3 n0 (Rn.clo l1).length n3 c0 cx c3 la (Rn.clo l1) ld W (h0.below (KO.on hk1 hk)) hx (h3.below (KO.on hk1 hk)) (by omega))
    have HAY := hide (fun W ax cx (hk : KO W1 W) (hx : Row .i32 W ax (Rn.clo l2).length cx (Rn.clo l2)) => around_any a0 ax a3 n0 (Rn.clo l2).length n3 c0 cx c3 la (Rn.clo l2) ld W (h0.below (KO.on hk1 hk)) hx (h3.below (KO.on hk1 hk)) (by omega))
    have HPX := hide (fun W a c (hk : KO W1 W) (h : Row .i32 W a (n0 + 1 + (Rn.clo l1).length + 1 + n3) c (Rn.wr3 la (Rn.clo l1) ld)) => paragraph_any a _ c _ base W h (hwf _ fx) (hm.below (KO.on hk1 hk)) (by omega) m L E hPA)
    have HPY := hide (fun W a c (hk : KO W1 W) (h : Row .i32 W a (n0 + 1 + (Rn.clo l2).length + 1 + n3) c (Rn.wr3 la (Rn.clo l2) ld)) => paragraph_any a _ c _ base W h (hwf _ fy) (hm.below (KO.on hk1 hk)) (by omega) m' L' E hPB)
    unfold RPA at HPX HPY
    have HNB := hide (show (Rn.clo l1).length ≤ 300 ∧ (Rn.clo l2).length ≤ 300 from by omega)
    clear hm h0 f0 h1 f1 h2 f2 h3 f3 f4 hk1 hh hX hPA hPB hwf fx fy hl0 hl1 hl2 hl3
    generalize Rn.wr3 la (Rn.clo l1) ld = TX at *
    generalize Rn.wr3 la (Rn.clo l2) ld = TY at *
    generalize Rn.clo l1 = lx at *
    generalize Rn.clo l2 = ly at *
    generalize hnx : lx.length = nx at *
    generalize hny : ly.length = ny at *
    obtain ⟨N1, hN1⟩ : ∃ N, n0 + 1 + nx + 1 + n3 = N := ⟨_, rfl⟩
    obtain ⟨N2, hN2⟩ : ∃ N, n0 + 1 + ny + 1 + n3 = N := ⟨_, rfl⟩
    simp only [hN1] at HAX HPX hrest
    simp only [hN2] at HAY HPY hrest
    have HN1 := hide hN1
    have HN2 := hide hN2
    clear hnx hny hN1 hN2 hlx hly
    go_enter Tryz.func7, Tryz.ntmps7
    go_wp2_with fail
    refine HW.out.mono ?_
    rintro e w1 ⟨rfl, hk⟩
    have HK2 := hide hk
    have x0 := HX0.out w1 hk
    have x1 := HX1.out w1 hk
    clear hk HW
    go_upto_region 5 with fail
    clear x0 x1
    go_cut [9, 10] from 35 to 40 (fun s9 s10 wx => ∃ ax cx ay cy, s9 = .slice ax nx cx ∧ s10 = .slice ay ny cy ∧ Hid (Row .i32 wx ax nx cx lx ∧ Row .i32 wx ay ny cy ly ∧ KO W1 wx))
    case first =>
      have x0 : ∀ w', KO w1 w' → w'.cell? ⟨B, 0, none⟩ = some (.slice a1 n1 c1) := fun w' hk => HX0.out w' (KO.on HK2.out hk)
      have x1 : ∀ w', KO w1 w' → w'.cell? ⟨B, 1, none⟩ = some (.slice a2 n2 c2) := fun w' hk => HX1.out w' (KO.on HK2.out hk)
      have hK : KO w1 w1 := KO.refl _
      refine wp_region_noPanic ?_
      go_region_held (fun w' => KO w1 w') (first | assumption | exact KO.drew hK)
        (first
          | (go_at_call_of 17 a1; refine (HCA.out _ (KO.on HK2.out (by assumption))).mono ?_; rintro e w3 ⟨ax, cx, rfl, hrx, hk3⟩; have kx : KO w1 w3 := KO.on (by assumption) hk3; try (have hry := hry.below hk3))
          | (go_at_call_of 17 a2; refine (HCB.out _ (KO.on HK2.out (by assumption))).mono ?_; rintro e w4 ⟨ay, cy, rfl, hry, hk4⟩; have ky : KO w1 w4 := KO.on (by assumption) hk4; try (have hrx := hrx.below hk4)))
      all_goals (
        refine NoPanic.normal ?_
        have HE := hide (And.intro hrx (And.intro hry (And.intro kx ky)))
        clear hrx hry hk3 hk4 x0 x1 hK
        go_wp2
        go_meet
        exact ⟨_, _, _, _, rfl, rfl, hide ⟨HE.out.1, HE.out.2.1, KO.on HK2.out (by assumption)⟩⟩)
    obtain ⟨ax, cx, ay, cy, rfl, rfl, HE⟩ := hcut
    have HA1 := hide (HAX.out wc ax cx HE.out.2.2 HE.out.1)
    clear HCA HCB HX0 HX1 HAX
    go_wp2_with fail
    refine HA1.out.mono ?_
    rintro e w3 ⟨a5, c5, rfl, hr5, hk5⟩
    have HK5 := hide (KO.on HE.out.2.2 hk5)
    have HP1 := hide (HPX.out w3 a5 c5 HK5.out hr5)
    have HRY := hide (HE.out.2.1.below hk5)
    clear hr5 hk5 HA1 HPX HE
    go_wp2_with fail
    refine HP1.out.mono ?_
    rintro e w4 ⟨a6, c6, rfl, hr6, hk6⟩
    have HK6 := hide (KO.on HK5.out hk6)
    have HR6 := hide hr6
    have HA2 := hide (HAY.out w4 ay cy HK6.out (HRY.out.below hk6))
    clear hr6 hk6 HP1 HRY HK5 HAY
    go_wp2_with fail
    refine HA2.out.mono ?_
    rintro e w5 ⟨a7, c7, rfl, hr7, hk7⟩
    have HK7 := hide (KO.on HK6.out hk7)
    have HP2 := hide (HPY.out w5 a7 c7 HK7.out hr7)
    have HR7 := hide (HR6.out.below hk7)
    clear hr7 hk7 HA2 HPY HK6 HR6
    go_wp2_with fail
    refine HP2.out.mono ?_
    rintro e w6 ⟨a8, c8, rfl, hr8, hk8⟩
    have HK8 := hide (KO.on HK1.out (KO.on HK7.out hk8))
    have HR8 := hide hr8
    have HR6 := hide (HR7.out.below hk8)
    clear hr8 hk8 HP2 HK7 HR7
    by_cases hE : E = 0
    · subst hE
      obtain ⟨⟨q1, q2⟩, rfl, q3⟩ := hrest rfl
      rw [q1] at HR6 ⊢
      rw [q2] at HR8 ⊢
      have hmm : (m == m) = true := by simp
      have hN1 := HN1.out
      have hN2 := HN2.out
      have hlen1 : ¬ ((N1 : Int) ≤ (n0 : Int) + 1) := by omega
      have hgt1 : (n0 : Int) + 1 < (N1 : Int) := by omega
      have hin1 : (n0 : Int) < (N1 : Int) := by omega
      obtain ⟨b6, o6, e6, hb6, hc6⟩ := HR6.out.cells (by omega)
      have cv := hc6 n0 (by rw [HR6.out.len]; omega)
      subst e6
      obtain ⟨v, hv⟩ : ∃ v, L.getD n0 0 = v := ⟨_, rfl⟩
      rw [hv] at cv q3
      have HQ := hide q3
      clear q1 q2 q3 hrest hc6 hv
      by_cases hv3 : 123 < v
      · go_wp2
        go_ret
        exact ⟨rfl, HK8.out⟩
      · obtain ⟨t1, t2⟩ := HQ.out (by omega)
        obtain ⟨ii, hii, hy0, hy1, hy2⟩ := info_parts infoInt
        obtain ⟨j1, hj1⟩ : ∃ j, n0 + 1 + nx = j := ⟨_, rfl⟩
        obtain ⟨j2, hj2⟩ : ∃ j, n0 + 1 + ny = j := ⟨_, rfl⟩
        obtain ⟨n4, hn4⟩ : ∃ j, n3 + 1 = j := ⟨_, rfl⟩
        rw [hj1, hj2] at t2
        have hle6 := HR6.out.le
        have hle8 := HR8.out.le
        have ew1 : IntKind.i64.wrap ((N1 : Int) - ((n3 : Int) + 1)) = (j1 : Int) := by have := HNB.out; rw [IntKind.wrap_i64]; omega
        have ew2 : IntKind.i64.wrap ((N2 : Int) - ((n3 : Int) + 1)) = (j2 : Int) := by have := HNB.out; rw [IntKind.wrap_i64]; omega
        have hs1 := fun w' => run_upto (P := Tryz.prog) Tryz.underlying24 hii cellsInt (some ⟨b6, o6, none⟩) N1 c6 (n0 + 1) (by omega) w'
        have hs2 := fun w' => run_upto (P := Tryz.prog) Tryz.underlying24 hii cellsInt a8 N2 c8 (n0 + 1) (by omega) w'
        rw [show ((n0 + 1 : Nat) : Int) = (n0 : Int) + 1 from by omega] at hs1 hs2
        have hs3 := fun w' => run_from (P := Tryz.prog) Tryz.underlying24 hii cellsInt (some ⟨b6, o6, none⟩) N1 c6 j1 (by omega) w'
        have hs4 := fun w' => run_from (P := Tryz.prog) Tryz.underlying24 hii cellsInt a8 N2 c8 j2 (by omega) w'
        rw [show N1 - j1 = n4 by omega] at hs3
        rw [show N2 - j2 = n4 by omega] at hs4
        have HRA := hide (fun q => (show Row .i64 (w6.drewN q) (some ⟨b6, o6, none⟩) (n0 + 1) c6 (L.take (n0 + 1)) from (HR6.out.below (below_drewN w6 q)).take (by omega)))
        have HRB := hide (fun q => (show Row .i64 (w6.drewN q) a8 (n0 + 1) c8 (L.take (n0 + 1)) from by rw [t1]; exact (HR8.out.below (below_drewN w6 q)).take (by omega)))
        have HRC := hide (fun q => (show Row .i64 (w6.drewN q) (tl (some ⟨b6, o6, none⟩) c6 j1) n4 (c6 - j1) (L.drop j1) from by
          have := (HR6.out.below (below_drewN w6 q)).drop (j := j1) (by omega)
          rw [show N1 - j1 = n4 by omega] at this
          exact this))
        have HRD := hide (fun q => (show Row .i64 (w6.drewN q) (tl a8 c8 j2) n4 (c8 - j2) (L.drop j1) from by
          have := (HR8.out.below (below_drewN w6 q)).drop (j := j2) (by omega)
          rw [show N2 - j2 = n4 by omega, ← t2] at this
          exact this))
        have HD8 := hide (fun q => KO.on HK8.out (below_drewN w6 q))
        clear t1 t2 hii hy0 hy1 hy2 hj1 hj2 hn4 HQ HR6 HR8 hb6 hle6 hle8 hN1 hN2
        go_wp2
        go_quiet (first | (go_at_call 12; refine Calls.quiet_of (ints_yes _ _ _ _ _ _ _ (by first | exact HRA.out _ | exact HRC.out _) (by first | exact HRB.out _ | exact HRD.out _))))
        go_wp2
        go_ret
        exact ⟨rfl, HD8.out _⟩
    · have hEb : (E != 0) = true := bne_iff_ne.2 hE
      have hEc : (E == E) = true := by simp
      clear hrest
      go_wp2
      go_ret
      exact ⟨rfl, HK8.out⟩
end Go.Proofs.YtfadjgaledddjaaGreatDoor
