import Derived.Test.YtfadjgaledddjaaGreatDoorZf
import Derived.Test.YtfadjgaledddjaaGreatDoorZm2
import Derived.Test.YtfadjgaledddjaaGreatDoorZa
import Derived.Test.YtfadjgaledddjaaGreatDoorZp
import Derived.Deep.Cut
import Derived.Deep.RegionHeldLaw
/- Something of the class BN, put in anywhere, changes no other one's level: plain mathematics. -/
namespace Go.Proofs.YtfadjgaledddjaaGreatDoor.Rn
set_option linter.unusedVariables false
open Ex (lev LV TY rm Formed at' mid fs typ)
/-- Where a place goes when something is put in at k. -/
def sh (k i : Nat) : Nat := if i < k then i else i + 1
theorem sh_lt {k i j : Nat} : sh k i < sh k j ↔ i < j := by unfold sh; split <;> split <;> omega
theorem sh_inj {k i j : Nat} (h : sh k i = sh k j) : i = j := by unfold sh at h; split at h <;> split at h <;> omega
theorem sh_ne (k i : Nat) : sh k i ≠ k := by unfold sh; split <;> omega
theorem sh_back {k z : Nat} (h : z ≠ k) : ∃ i, z = sh k i ∧ (∀ n, z < n + 1 → k ≤ n → i < n) := by
  by_cases hz : z < k
  · exact ⟨z, by unfold sh; rw [if_pos hz], fun n h1 h2 => by omega⟩
  · exact ⟨z - 1, by unfold sh; rw [if_neg (by omega)]; omega, fun n h1 h2 => by omega⟩
section
variable {a d : List Int}
theorem ins_len (a d : List Int) (x : Int) : (a ++ x :: d).length = (a ++ d).length + 1 := by simp; omega
theorem ins_at (a d : List Int) (x : Int) (i : Nat) : (a ++ x :: d).getD (sh a.length i) 0 = (a ++ d).getD i 0 := by
  unfold sh
  by_cases h : i < a.length
  · rw [if_pos h]
    simp [List.getD, List.getElem?_append_left h]
  · rw [if_neg h]
    simp only [List.getD]
    rw [List.getElem?_append_right (by omega), List.getElem?_append_right (by omega), show i + 1 - a.length = (i - a.length) + 1 by omega]
    simp
theorem ins_mid (a d : List Int) (x : Int) : (a ++ x :: d).getD a.length 0 = x := by simp [List.getD]
theorem fs_ins (d : List Int) : ∀ (a : List Int) (o : Nat), fs o (a ++ 10 :: d) = fs o (a ++ d) := by
  intro a
  induction a with
  | nil =>
    intro o
    show fs o (10 :: d) = fs o d
    rw [Ex.fs_cons, if_neg (by omega), if_neg (by omega), if_neg (by omega)]
    rfl
  | cons x a ih =>
    intro o
    show fs o (x :: (a ++ 10 :: d)) = fs o (x :: (a ++ d))
    rw [Ex.fs_cons, Ex.fs_cons, ih]
theorem bso_ins (d : List Int) : ∀ (a : List Int) (o : Nat), Iso.bso o (a ++ 10 :: d) = Iso.bso o (a ++ d) := by
  intro a
  induction a with
  | nil =>
    intro o
    show Iso.bso o (10 :: d) = Iso.bso o d
    rw [Iso.bso_cons, if_neg (by omega), if_neg (by omega)]
    rfl
  | cons x a ih =>
    intro o
    show Iso.bso o (x :: (a ++ 10 :: d)) = Iso.bso o (x :: (a ++ d))
    rw [Iso.bso_cons, Iso.bso_cons, ih]
theorem ptl_ins (d : List Int) : ∀ (a : List Int) (o : Nat), Iso.ptl o (a ++ 10 :: d) = if Iso.ptl o (a ++ d) < a.length then Iso.ptl o (a ++ d) else Iso.ptl o (a ++ d) + 1 := by
  intro a
  induction a with
  | nil =>
    intro o
    show Iso.ptl o (10 :: d) = if Iso.ptl o d < 0 then Iso.ptl o d else Iso.ptl o d + 1
    rw [if_neg (by omega), Iso.ptl_cons, if_neg (by decide), if_neg (by decide)]
  | cons x a ih =>
    intro o
    show Iso.ptl o (x :: (a ++ 10 :: d)) = if Iso.ptl o (x :: (a ++ d)) < a.length + 1 then Iso.ptl o (x :: (a ++ d)) else Iso.ptl o (x :: (a ++ d)) + 1
    rw [Iso.ptl_cons, Iso.ptl_cons, ih, ih, ih]
    split
    · split <;> split <;> omega
    · split
      · split
        · rw [if_pos (by omega)]
        · split <;> split <;> omega
      · split <;> split <;> omega
theorem drop_ins_le (a d : List Int) (x : Int) {j : Nat} (h : j ≤ a.length) : (a ++ x :: d).drop j = a.drop j ++ x :: d ∧ (a ++ d).drop j = a.drop j ++ d := ⟨List.drop_append_of_le_length h, List.drop_append_of_le_length h⟩
theorem drop_ins_ge (a d : List Int) (x : Int) {j : Nat} (h : a.length ≤ j) : (a ++ x :: d).drop (j + 1) = (a ++ d).drop j := by
  rw [List.drop_append, List.drop_append, List.drop_eq_nil_of_le (by omega), List.drop_eq_nil_of_le h, show j + 1 - a.length = (j - a.length) + 1 by omega]
  rfl
theorem partner_ins (a d : List Int) (i : Nat) : Iso.partner (a ++ 10 :: d) (sh a.length i) = sh a.length (Iso.partner (a ++ d) i) := by
  unfold Iso.partner
  by_cases h : i < a.length
  · obtain ⟨e1, e2⟩ := drop_ins_le a d 10 (show i + 1 ≤ a.length by omega)
    rw [show sh a.length i = i by unfold sh; rw [if_pos h], e1, e2, ptl_ins, List.length_drop]
    unfold sh
    split
    · rw [if_pos (by omega)]
    · rw [if_neg (by omega)]; omega
  · rw [show sh a.length i = i + 1 by unfold sh; rw [if_neg h], drop_ins_ge a d 10 (show a.length ≤ i + 1 by omega)]
    unfold sh
    rw [if_neg (by omega)]; omega
theorem step_ins (s : Ex.St) (x : Int) {r r' : List Int} (h : fs 0 r = fs 0 r') : Ex.step s x r = Ex.step s x r' := by unfold Ex.step Ex.wo; rw [h]
theorem at_ins_le (s : Ex.St) (a d : List Int) : ∀ j, j ≤ a.length → at' s (a ++ 10 :: d) j = at' s (a ++ d) j := by
  intro j
  induction j with
  | zero => intro _; rfl
  | succ j ih =>
    intro hj
    rw [Ex.at_succ, Ex.at_succ, ih (by omega)]
    have e := ins_at a d 10 j
    rw [show sh a.length j = j by unfold sh; rw [if_pos (by omega)]] at e
    obtain ⟨e1, e2⟩ := drop_ins_le a d 10 (show j + 1 ≤ a.length by omega)
    rw [e, e1, e2]
    exact step_ins _ _ (fs_ins d _ 0)
theorem step_bn (s : Ex.St) (r : List Int) : Ex.step s 10 r = s := rfl
theorem at_ins_ge (s : Ex.St) (a d : List Int) : ∀ m, at' s (a ++ 10 :: d) (a.length + m + 1) = at' s (a ++ d) (a.length + m) := by
  intro m
  induction m with
  | zero => rw [Nat.add_zero, Ex.at_succ, ins_mid, step_bn, at_ins_le s a d _ (Nat.le_refl _), Nat.add_zero]
  | succ m ih =>
    rw [Ex.at_succ, show a.length + (m + 1) = a.length + m + 1 by omega, ih, Ex.at_succ]
    have e := ins_at a d 10 (a.length + m)
    rw [show sh a.length (a.length + m) = a.length + m + 1 by unfold sh; rw [if_neg (by omega)]] at e
    rw [e, drop_ins_ge a d 10 (show a.length ≤ a.length + m + 1 by omega)]
theorem at_ins (s : Ex.St) (a d : List Int) (i : Nat) : at' s (a ++ 10 :: d) (sh a.length i) = at' s (a ++ d) i := by
  unfold sh
  by_cases h : i < a.length
  · rw [if_pos h]; exact at_ins_le s a d i (by omega)
  · rw [if_neg h]
    obtain ⟨m, rfl⟩ : ∃ m, i = a.length + m := ⟨i - a.length, by omega⟩
    exact at_ins_ge s a d m
theorem lev_ins (b : Int) (a d : List Int) (i : Nat) : lev b (Ex.s0 b) (a ++ 10 :: d) (sh a.length i) = lev b (Ex.s0 b) (a ++ d) i := by
  unfold Ex.lev
  rw [at_ins, ins_at]
theorem typ_ins (b : Int) (a d : List Int) (i : Nat) : typ (Ex.s0 b) (a ++ 10 :: d) (sh a.length i) = typ (Ex.s0 b) (a ++ d) i := by
  unfold Ex.typ
  rw [at_ins, ins_at]
theorem getD_out {l : List Int} {i : Nat} (h : l.length ≤ i) : l.getD i 0 = 0 := by simp [List.getD, List.getElem?_eq_none h]
theorem sh_len (a d : List Int) (x : Int) {i : Nat} : sh a.length i < (a ++ x :: d).length ↔ i < (a ++ d).length := by
  rw [ins_len]
  have : a.length ≤ (a ++ d).length := by simp
  unfold sh; split <;> omega
theorem LV_ins (b : Int) (a d : List Int) (i : Nat) : (LV b (a ++ 10 :: d)).getD (sh a.length i) 0 = (LV b (a ++ d)).getD i 0 := by
  by_cases h : i < (a ++ d).length
  · rw [Ex.LV_at b _ _ ((sh_len a d 10).2 h), Ex.LV_at b _ _ h, lev_ins]
  · rw [getD_out (by rw [Ex.LV_len]; exact Nat.not_lt.1 fun q => h ((sh_len a d 10).1 q)), getD_out (by rw [Ex.LV_len]; omega)]
theorem TY_ins (b : Int) (a d : List Int) (i : Nat) : (TY b (a ++ 10 :: d)).getD (sh a.length i) 0 = (TY b (a ++ d)).getD i 0 := by
  by_cases h : i < (a ++ d).length
  · rw [Ex.TY_at b _ _ ((sh_len a d 10).2 h), Ex.TY_at b _ _ h, typ_ins]
  · rw [getD_out (by rw [Ex.TY_len]; exact Nat.not_lt.1 fun q => h ((sh_len a d 10).1 q)), getD_out (by rw [Ex.TY_len]; omega)]
theorem kp_ins (b : Int) (a d : List Int) (i : Nat) : kp (LV b (a ++ 10 :: d)) (sh a.length i) = kp (LV b (a ++ d)) i := by unfold kp; rw [LV_ins]
theorem LV_mid (b : Int) (a d : List Int) : (LV b (a ++ 10 :: d)).getD a.length 0 = -1 := by
  rw [Ex.LV_at b _ _ (by simp)]
  exact lev_gone (by rw [ins_mid]; rfl)
theorem kp_mid (b : Int) (a d : List Int) : kp (LV b (a ++ 10 :: d)) a.length = false := by unfold kp; rw [LV_mid]; rfl
theorem adj_ins {b : Int} {i j : Nat} (h : Adj (LV b (a ++ d)) i j) : Adj (LV b (a ++ 10 :: d)) (sh a.length i) (sh a.length j) := by
  refine ⟨sh_lt.2 h.1, fun z h1 h2 => ?_⟩
  by_cases hz : z = a.length
  · rw [hz]; exact kp_mid b a d
  · obtain ⟨q, rfl, _⟩ := sh_back hz
    rw [kp_ins]
    exact h.2 q (sh_lt.1 h1) (sh_lt.1 h2)
theorem adj_del {b : Int} {i j : Nat} (h : Adj (LV b (a ++ 10 :: d)) (sh a.length i) (sh a.length j)) : Adj (LV b (a ++ d)) i j := by
  refine ⟨sh_lt.1 h.1, fun z h1 h2 => ?_⟩
  rw [← kp_ins]
  exact h.2 _ (sh_lt.2 h1) (sh_lt.2 h2)
theorem kept_back {b : Int} {z : Nat} (h : kp (LV b (a ++ 10 :: d)) z = true) : ∃ i, z = sh a.length i := by
  have hz : z ≠ a.length := fun e => by rw [e, kp_mid] at h; cases h
  obtain ⟨i, e, _⟩ := sh_back hz
  exact ⟨i, e⟩
theorem nx_ins {b : Int} {i j : Nat} (h : Nx b (a ++ d) i j) : Nx b (a ++ 10 :: d) (sh a.length i) (sh a.length j) := by
  refine ⟨by rw [kp_ins]; exact h.ki, by rw [kp_ins]; exact h.kj, (sh_len a d 10).2 h.lt, by rw [LV_ins, LV_ins]; exact h.lv, ?_⟩
  rcases h.how with h1 | ⟨h1, h2, h3⟩
  · exact .inl (adj_ins h1)
  · refine .inr ⟨by rw [ins_at]; exact h1, by rw [partner_ins, h2], fun z z1 z2 z3 => ?_⟩
    obtain ⟨q, rfl⟩ := kept_back z3
    rw [LV_ins, LV_ins]
    exact h3 q (adj_del z1) ((sh_len a d 10).1 z2) (by rw [← kp_ins]; exact z3)
theorem nx_del {b : Int} {i j : Nat} (h : Nx b (a ++ 10 :: d) (sh a.length i) (sh a.length j)) : Nx b (a ++ d) i j := by
  refine ⟨by rw [← kp_ins]; exact h.ki, by rw [← kp_ins]; exact h.kj, (sh_len a d 10).1 h.lt, by have := h.lv; rwa [LV_ins, LV_ins] at this, ?_⟩
  rcases h.how with h1 | ⟨h1, h2, h3⟩
  · exact .inl (adj_del h1)
  · refine .inr ⟨by rw [← ins_at a d 10]; exact h1, sh_inj (by rw [← partner_ins, h2]), fun z z1 z2 z3 => ?_⟩
    rw [← LV_ins, ← LV_ins b a d i]
    exact h3 _ (adj_ins z1) ((sh_len a d 10).2 z2) (by rw [kp_ins]; exact z3)
/-- WHAT IS REMOVED CHANGES NOTHING. -/
theorem deaf {b : Int} {l1 l2 : List Int} (hl : l1.length = a.length) (y : Int) : Cor (fun i i' => (i < (a ++ d).length ∧ kp (LV b (a ++ d)) i = true) ∧ i' = sh a.length i) b (a ++ d) (l1 ++ l2) (a ++ 10 :: d) (l1 ++ y :: l2) := by
  refine ⟨⟨?_, ?_⟩, ⟨?_, ?_⟩, ?_, ?_, ?_, ?_, ?_, ?_⟩
  · rintro i i' j ⟨_, rfl⟩ h
    exact ⟨_, ⟨⟨h.lt, h.kj⟩, rfl⟩, nx_ins h⟩
  · rintro i i' j ⟨⟨h1, _⟩, rfl⟩ h
    exact ⟨_, ⟨⟨by have := h.up; omega, h.ki⟩, rfl⟩, nx_ins h⟩
  · rintro i' i j' ⟨_, rfl⟩ h
    obtain ⟨j, rfl⟩ := kept_back h.kj
    have h2 := nx_del h
    exact ⟨j, ⟨⟨h2.lt, h2.kj⟩, rfl⟩, h2⟩
  · rintro i' i j' ⟨⟨h1, _⟩, rfl⟩ h
    obtain ⟨j, rfl⟩ := kept_back h.ki
    have h2 := nx_del h
    exact ⟨j, ⟨⟨by have := h2.up; omega, h2.ki⟩, rfl⟩, h2⟩
  · rintro i i' ⟨⟨h1, h2⟩, rfl⟩
    exact ⟨⟨h1, h2⟩, (sh_len a d 10).2 h1, by rw [kp_ins]; exact h2⟩
  · rintro i i' ⟨_, rfl⟩; exact (LV_ins b a d i).symm
  · rintro i i' ⟨_, rfl⟩; exact (TY_ins b a d i).symm
  · rintro i i' ⟨_, rfl⟩
    rw [← hl]; exact (ins_at l1 l2 y i).symm
  · rintro i i' ⟨_, rfl⟩ _ v h
    rcases h with ⟨j, k1, a1, rfl⟩ | ⟨n1, rfl⟩
    · exact .inl ⟨sh a.length j, by rw [kp_ins]; exact k1, adj_ins a1, (LV_ins b a d j).symm⟩
    · refine .inr ⟨fun z hz => ?_, rfl⟩
      by_cases e : z = a.length
      · rw [e]; exact kp_mid _ a d
      · obtain ⟨q, rfl, _⟩ := sh_back e
        rw [kp_ins]; exact n1 q (sh_lt.1 hz)
  · rintro i i' ⟨_, rfl⟩ _ v h
    rcases h with ⟨s1, rfl⟩ | ⟨s1, h⟩
    · exact .inl ⟨by rw [ins_at]; exact s1, rfl⟩
    · refine .inr ⟨by rw [ins_at]; exact s1, ?_⟩
      rcases h with ⟨j, l1', k1, a1, rfl⟩ | ⟨n1, rfl⟩
      · exact .inl ⟨sh a.length j, (sh_len a d 10).2 l1', by rw [kp_ins]; exact k1, adj_ins a1, (LV_ins b a d j).symm⟩
      · refine .inr ⟨fun z z1 z2 => ?_, rfl⟩
        by_cases e : z = a.length
        · rw [e]; exact kp_mid _ a d
        · obtain ⟨q, rfl, _⟩ := sh_back e
          rw [kp_ins]; exact n1 q (sh_lt.1 z1) ((sh_len a d 10).1 z2)
theorem formed_ins (h : Formed (a ++ d)) (hd : 0 < d.length) : Formed (a ++ 10 :: d) := by
  intro i hi
  by_cases e : i = a.length
  · rw [e, ins_mid]; exact ⟨by decide, by decide, fun h => absurd h (by decide)⟩
  · obtain ⟨q, rfl, _⟩ := sh_back e
    have hq := (sh_len a d 10).1 hi
    obtain ⟨h1, h2, h3⟩ := h q hq
    rw [ins_at]
    refine ⟨h1, h2, fun hx => ?_⟩
    have := h3 hx
    rw [ins_len]
    rw [List.length_append] at this ⊢
    unfold sh
    rw [if_neg (by omega)]
    omega
theorem formed_del (h : Formed (a ++ 10 :: d)) : Formed (a ++ d) := by
  intro i hi
  obtain ⟨h1, h2, h3⟩ := h (sh a.length i) ((sh_len a d 10).2 hi)
  rw [ins_at] at h1 h2 h3
  refine ⟨h1, h2, fun hx => ?_⟩
  have := h3 hx
  rw [ins_len] at this
  unfold sh at this
  split at this
  · rename_i hlt
    rw [List.length_append] at this
    omega
  · omega
/-- All levels: as they were, and -1. -/
theorem deaf_level {b : Int} (hb : b = 0 ∨ b = 1) (hF : Formed (a ++ d)) (hd : 0 < d.length) (f : List Int → List Int → Int → Int → Int → List Int) {l1 l2 : List Int} (hl : l1.length = a.length) (y : Int) :
    (∀ i, i < (a ++ d).length → PV f (l1 ++ y :: l2) b (a ++ 10 :: d) (sh a.length i) = PV f (l1 ++ l2) b (a ++ d) i) ∧ PV f (l1 ++ y :: l2) b (a ++ 10 :: d) a.length = -1 := by
  have hF' := formed_ins hF hd
  refine ⟨fun i hi => ?_, PV_gone hb hF' f _ (kp_mid b a d)⟩
  cases hk : kp (LV b (a ++ d)) i with
  | true => exact ((deaf (b := b) (a := a) (d := d) (l1 := l1) (l2 := l2) hl y).level hb hF hF' f ⟨⟨hi, hk⟩, rfl⟩).symm
  | false => rw [PV_gone hb hF f _ hk, PV_gone hb hF' f _ (by rw [kp_ins]; exact hk)]
end
end Go.Proofs.YtfadjgaledddjaaGreatDoor.Rn

/- Something of the class BN, put into a text: plain mathematics. -/
namespace Go.Proofs.YtfadjgaledddjaaGreatDoor.Rn
set_option linter.unusedVariables false
open Ex (lev LV TY rm Formed)
theorem cl_app (l m : List Int) : cl (l ++ m) = cl l ++ cl m := by simp [cl]
theorem cl_ins (l : List Int) (k : Nat) : cl (l.take k ++ 8203 :: l.drop k) = (cl l).take k ++ 10 :: (cl l).drop k := by
  have h : Ucd.cls 8203 = 10 := by decide +kernel
  simp [cl, h, List.map_take, List.map_drop]
/-- The levels of a text with a place put in: the others are as they were. -/
theorem deaf_PA {l : List Int} {base m : Int} {L : List Int} (h : PA l base m L 0) {k : Nat} (hk : k < l.length) (hn : l.length ≤ 4095) :
    ∃ L', PA (l.take k ++ 8203 :: l.drop k) base m L' 0 ∧ L'.length = l.length + 1 ∧ L'.getD k 0 = -1 ∧ L'.take k ++ L'.drop (k + 1) = L := by
  rcases PA_err h with ⟨_, h1, h2, h3, h4, h5⟩ | ⟨h0, _⟩
  · have hb := bl_two h1 l
    rw [← h4] at hb h5
    have hlen : (l.take k ++ 8203 :: l.drop k).length = l.length + 1 := by simp; omega
    have e0 : (cl l).take k ++ (cl l).drop k = cl l := List.take_append_drop _ _
    have el : l.take k ++ l.drop k = l := List.take_append_drop _ _
    have hbl : bl base (l.take k ++ 8203 :: l.drop k) = m := by
      rw [h4]
      unfold bl
      rw [cl_ins, bso_ins, e0]
    have hd0 : 0 < ((cl l).drop k).length := by rw [List.length_drop, cl_len]; omega
    have hF0 : Formed ((cl l).take k ++ (cl l).drop k) := by rw [e0]; exact h3
    have hF : Formed (cl (l.take k ++ 8203 :: l.drop k)) := by rw [cl_ins]; exact formed_ins hF0 hd0
    have hal : ((cl l).take k).length = k := by rw [List.length_take, cl_len]; omega
    have hll : (l.take k).length = ((cl l).take k).length := by rw [hal, List.length_take]; omega
    obtain ⟨d1, d2⟩ := deaf_level (b := m) hb hF0 hd0 F13 (l1 := l.take k) (l2 := l.drop k) hll 8203
    rw [e0, el, hal] at d1
    rw [hal] at d2
    have hat : ∀ i, i < l.length + 1 → (VS (l.take k ++ 8203 :: l.drop k) m).getD i 0 = PV F13 (l.take k ++ 8203 :: l.drop k) m ((cl l).take k ++ 10 :: (cl l).drop k) i := fun i hi => by
      rw [VS_at _ _ (by rw [hlen]; exact hi), cl_ins]
    refine ⟨VS (l.take k ++ 8203 :: l.drop k) m, .inr (.inr (.inr ⟨h1, by rw [hlen]; omega, hF, hbl.symm, by rw [hbl], rfl⟩)), by rw [VS_len, hlen], ?_, ?_⟩
    · rw [hat k (by omega), d2]
    · have hvl : (VS (l.take k ++ 8203 :: l.drop k) m).length = l.length + 1 := by rw [VS_len, hlen]
      rw [h5]
      refine ext_getD (by rw [VS_len, List.length_append, List.length_take, List.length_drop, hvl]; omega) fun j hj => ?_
      have hj2 : j < l.length := by rw [List.length_append, List.length_take, List.length_drop, hvl] at hj; omega
      rw [VS_at _ _ hj2, ← d1 j (by rw [cl_len]; exact hj2)]
      unfold sh
      by_cases hjk : j < k
      · rw [if_pos hjk, ← hat j (by omega)]
        simp only [List.getD_eq_getElem?_getD]
        rw [List.getElem?_append_left (by rw [List.length_take, hvl]; omega), List.getElem?_take_of_lt hjk]
      · rw [if_neg hjk, ← hat (j + 1) (by omega)]
        simp only [List.getD_eq_getElem?_getD]
        rw [List.getElem?_append_right (by rw [List.length_take, hvl]; omega), List.getElem?_drop, List.length_take, hvl, show min k (l.length + 1) = k by omega, show k + 1 + (j - k) = j + 1 by omega]
  · exact absurd rfl h0
theorem PA_nil {base m : Int} {L : List Int} (h : PA [] base m L 0) : m = max 0 base := by
  rcases PA_err h with ⟨_, h1, _, _, h4, _⟩ | ⟨h0, _⟩
  · rw [h4]
    unfold bl
    unfold BB at h1
    by_cases e : base = -1
    · rw [if_pos e, e]; rfl
    · rw [if_neg e]; omega
  · exact absurd rfl h0
end Go.Proofs.YtfadjgaledddjaaGreatDoor.Rn

/- An append of a row, and what it leaves as it was. -/
namespace Go.Proofs.YtfadjgaledddjaaGreatDoor
open Go.RowKit
set_option linter.unusedVariables false
theorem grown_refl (w : World) (g : Option Nat) : w.grownBy w g := ⟨rfl, rfl, rfl, Nat.le_refl _, fun _ _ _ => rfl⟩
/-- A row in a block that an append did not grow. -/
theorem Row.grown {k : IntKind} {w w' : World} {b off n cap : Nat} {zs : List Int} {own : Option Nat} (h : Row k w (some ⟨b, off, none⟩) n cap zs) (hg : w.grownBy w' own) (hne : own ≠ some b) : Row k w' (some ⟨b, off, none⟩) n cap zs := by
  refine ⟨h.len, h.le, h.max, fun h0 => ?_, h.nil⟩
  obtain ⟨b2, o2, e, hb, hc⟩ := h.cells h0
  simp only [Option.some.injEq, Addr.mk.injEq, and_true] at e
  obtain ⟨rfl, rfl⟩ := e
  obtain ⟨_, _, _, hs, hk⟩ := hg
  have hh := hk b hb (fun e => hne e.symm)
  exact ⟨b, off, rfl, Nat.lt_of_lt_of_le hb hs, fun i hi => by
    have := hc i hi
    simp only [World.cell?] at this ⊢
    rw [hh]
    exact this⟩
theorem grown_ko {w1 W w2 : World} {e n : Nat} {v : Value} {xs : List Value} (hk : KO w1 W) (hown : W.ownsRow w1.heap.size e 1 v n xs) (hg : W.grownBy w2 v.ownBlock) : KO w1 w2 :=
  Below.grown hk hg hk.size (fun j hj => (hown.lt j hj).1)
theorem wp_append_rowG {P : Program} (w : World) {o : Oper} {a : Act} {K : Act → World → Prop} {Q : Exit → Act → World → Prop} (s x : Operand) (t : TypeId)
    (ho : o.op = .call { callee := .builtin .append, args := #[s, x], argTypes := #[t, t] })
    (base : Nat) (e : TypeId) (i : TypeInfo) (z : Value) (bytes : Nat) (ht : P.underlying t = some (.slice e)) (hi : P.info? e = some i) (hz : i.zero = some z)
    (hsize : i.size = 1) (hby : i.bytes = bytes) (hzs : z.cells.size = 1)
    (v : Value) (n : Nat) (xs : List Value) (hs : a.eval s = v) (hown : w.ownsRow base e 1 v n xs)
    (k : IntKind) (ao : Option Addr) (m c : Nat) (zs : List Int) (hx : a.eval x = .slice ao m c) (hrow : Row k w ao m c zs)
    (hbytes : (n + m) * bytes ≤ 140737488355328) (hb1 : 1 ≤ bytes) (hbase : base ≤ w.heap.size)
    (h : ∀ v' w', w'.ownsRow base e 1 v' (n + m) (xs ++ zs.map (Value.int k)) → w.grownBy w' v.ownBlock → K (a.put o.dst v') w') : o.wp P a w K Q := by
  have h63 : n + m ≤ maxLen := by
    have : (n + m) * 1 ≤ (n + m) * bytes := Nat.mul_le_mul_left _ hb1
    unfold maxLen; omega
  cases ao with
  | none =>
    have hc := hrow.nil rfl
    have hm : m = 0 := by have := hrow.le; omega
    subst hc hm
    have hzs0 : zs = [] := List.length_eq_zero_iff.1 hrow.len
    subst hzs0
    have hrun := run_append_owned_none (P := P) (w := w) base t o.type e i 1 ht hi v n xs hown
    have hK := h v w (by simpa using hown) (grown_refl _ _)
    unfold Oper.wp
    simp [execOp, ho, resolve, invoke, builtin, hs, hx, hrun, Result.andThen]
    exact hK
  | some ad =>
    refine wp_append_own w s x t ho base e i z 1 bytes ht hi hz hsize hby hzs (by decide) v n xs hs hown ad m c (zs.map (Value.int k)) hx (by simp [hrow.len]) ?_ (ints_oneCell k zs) h63 hbytes hbase (fun v' w' h1 h2 _ => h v' w' h1 h2)
    intro j u hj
    have hjl : j < zs.length := by
      have := (List.getElem?_eq_some_iff.1 hj).1
      simpa using this
    have hl := hrow.len
    obtain ⟨b, off, e1, _, hc⟩ := hrow.cells (by omega)
    simp only [Option.some.injEq] at e1
    subst e1
    have hadd : (⟨b, off, none⟩ : Addr).add j = ⟨b, off + j, none⟩ := by unfold Addr.add; split <;> simp_all
    rw [hadd, hc j hjl]
    rw [List.getElem?_map, List.getElem?_eq_getElem hjl] at hj
    simp only [Option.map_some, Option.some.injEq] at hj
    rw [← hj]
    simp [List.getD, List.getElem?_eq_getElem hjl]
/-- The same at a step of a region that draws its order. -/
theorem step_append_rowG {P : Program} (w : World) {ops : Array Oper} {o : Oper} {a : Act} {K : Act → World → Prop} {Q : Exit → Act → World → Prop} {E : Prop} (hgd : o.guard = none) (s x : Operand) (t : TypeId)
    (ho : o.op = .call { callee := .builtin .append, args := #[s, x], argTypes := #[t, t] })
    (base : Nat) (e : TypeId) (i : TypeInfo) (z : Value) (bytes : Nat) (ht : P.underlying t = some (.slice e)) (hi : P.info? e = some i) (hz : i.zero = some z)
    (hsize : i.size = 1) (hby : i.bytes = bytes) (hzs : z.cells.size = 1)
    (v : Value) (n : Nat) (xs : List Value) (hs : a.eval s = v) (hown : w.ownsRow base e 1 v n xs)
    (k : IntKind) (ao : Option Addr) (m c : Nat) (zs : List Int) (hx : a.eval x = .slice ao m c) (hrow : Row k w ao m c zs)
    (hbytes : (n + m) * bytes ≤ 140737488355328) (hb1 : 1 ≤ bytes) (hbase : base ≤ w.heap.size)
    (h : ∀ v' w', w'.ownsRow base e 1 v' (n + m) (xs ++ zs.map (Value.int k)) → w.grownBy w' v.ownBlock → K (a.put o.dst v') w') :
    if Region.wanted o (yielded ops a.tmps) = true then Oper.wp P o a w K Q else E := by
  have hw : Region.wanted o (yielded ops a.tmps) = true := by simp [Region.wanted, hgd]
  rw [if_pos hw]
  exact wp_append_rowG w s x t ho base e i z bytes ht hi hz hsize hby hzs v n xs hs hown k ao m c zs hx hrow hbytes hb1 hbase h
/-- The same in a list of operations. -/
theorem wpList_append_rowG {P : Program} (w : World) {ops : Array Oper} {rest : List Oper} {o : Oper} {a : Act} {Q : Exit → Act → World → Prop} (hw : Region.wanted o (yielded ops a.tmps) = true) (s x : Operand) (t : TypeId)
    (ho : o.op = .call { callee := .builtin .append, args := #[s, x], argTypes := #[t, t] })
    (base : Nat) (e : TypeId) (i : TypeInfo) (z : Value) (bytes : Nat) (ht : P.underlying t = some (.slice e)) (hi : P.info? e = some i) (hz : i.zero = some z)
    (hsize : i.size = 1) (hby : i.bytes = bytes) (hzs : z.cells.size = 1)
    (v : Value) (n : Nat) (xs : List Value) (hs : a.eval s = v) (hown : w.ownsRow base e 1 v n xs)
    (k : IntKind) (ao : Option Addr) (m c : Nat) (zs : List Int) (hx : a.eval x = .slice ao m c) (hrow : Row k w ao m c zs)
    (hbytes : (n + m) * bytes ≤ 140737488355328) (hb1 : 1 ≤ bytes) (hbase : base ≤ w.heap.size)
    (h : ∀ v' w', w'.ownsRow base e 1 v' (n + m) (xs ++ zs.map (Value.int k)) → w.grownBy w' v.ownBlock → wpList P ops Q rest (a.put o.dst v') w') : wpList P ops Q (o :: rest) a w :=
  BigFrame.wpList_want hw fun K hK => wp_append_rowG w s x t ho base e i z bytes ht hi hz hsize hby hzs v n xs hs hown k ao m c zs hx hrow hbytes hb1 hbase fun v' w' h1 h2 => hK _ _ (h v' w' h1 h2)
end Go.Proofs.YtfadjgaledddjaaGreatDoor

/- LevelsDeaf. -/
namespace Go.Proofs.YtfadjgaledddjaaGreatDoor
open Go.RowKit
set_option linter.unusedVariables false
set_option maxHeartbeats 2000000
set_option maxRecDepth 100000
theorem cellsRune12 : Tryz.prog.cellsOf 21 = 1 := by kernel_rfl
theorem LevelsDeaf_walk (w : World) (hm : Marks w) (a0 : Option Addr) (n0 c0 : Nat) (l : List Int) (h0 : Row .i32 w a0 n0 c0 l) (f0 : ∀ x ∈ l, (Lit.int .i32 x).wf = true) (b0 : n0 * 4 ≤ 140737488351232) (base : Int) (f1 : (Lit.int .i64 base).wf = true) (at0 : Int) (f2 : (Lit.int .i64 at0).wf = true) :
    Calls Tryz.prog 6 #[.slice a0 n0 c0, .int .i64 base, .int .i64 at0] w fun e w' => e = .returned (.bool true) ∧ Below w.heap.size w w' := by
  have HW := hide (works12_any w hm)
  by_cases hbig : 600 < n0
  · have hbig' : (600 : Int) < (n0 : Int) := by omega
    clear hm h0 f0 f1 f2
    go_enter Tryz.func6, Tryz.ntmps6
    go_wp2_with fail
    refine HW.out.mono ?_
    rintro e w1 ⟨rfl, hk⟩
    go_wp2
    go_ret
    exact ⟨rfl, hk⟩
  · have hbig' : ¬ (600 : Int) < (n0 : Int) := by omega
    obtain ⟨m, L, E, hPA⟩ := Rn.PA_some l base
    have hln := h0.len
    have HPA := hide (fun W (hk : KO w W) => paragraph_any a0 n0 c0 l base W (h0.below hk) f0 (hm.below hk) (by omega) m L E hPA)
    unfold RPA at HPA
    by_cases hE : E = 0
    · subst hE
      rcases Nat.eq_zero_or_pos n0 with hz | hpos
      · subst hz
        have hl0 : l = [] := List.eq_nil_of_length_eq_zero hln
        subst hl0
        have hmx := Rn.PA_nil hPA
        have HRM : Hid (∀ (w' : World) (ts : Array TypeId) (t : TypeId), (Builtin.max_ ts t #[.int .i64 0, .int .i64 base]).run Tryz.prog w' = .ok (.int .i64 m) w') := hide fun w' ts t => by
          rw [hmx, run_max_int2]
          congr 2
          split <;> omega
        have hmm : (m == m) = true := by simp
        clear hm h0 f0 f1 f2 hPA hln hbig hmx
        go_enter Tryz.func6, Tryz.ntmps6
        go_wp2_with fail
        refine HW.out.mono ?_
        rintro e w1 ⟨rfl, hk1⟩
        have HP1 := hide (HPA.out w1 hk1)
        have HK1 := hide hk1
        clear hk1 HPA HW
        have hrm := HRM.out
        go_wp2_with fail
        refine HP1.out.mono ?_
        rintro e w2 ⟨a2, c2, rfl, hr2, hk2⟩
        have HK2 := hide (KO.on HK1.out hk2)
        clear hr2 hk2 HP1 HK1
        go_wp2
        go_ret
        exact ⟨rfl, HK2.out⟩
      · obtain ⟨k, hk, ek⟩ := place_at at0 n0 hpos (by omega)
        obtain ⟨L', hPA', hL'n, hL'k, hL'L⟩ := Rn.deaf_PA hPA (k := k) (by omega) (by omega)
        have hLn : L.length = n0 := by rw [(Rn.PA_again hPA).2.2.1, hln]
        rw [hln] at hL'n
        have hwf' : ∀ x ∈ l.take k ++ 8203 :: l.drop k, (Lit.int .i32 x).wf = true := fun x hx => by
          rcases List.mem_append.1 hx with h | h
          · exact f0 x (List.mem_of_mem_take h)
          · rcases List.mem_cons.1 h with rfl | h
            · decide
            · exact f0 x (List.mem_of_mem_drop h)
        have HPB := hide (fun W ao cap (hk : KO w W) (h : Row .i32 W ao (n0 + 1) cap (l.take k ++ 8203 :: l.drop k)) => paragraph_any ao (n0 + 1) cap _ base W h hwf' (hm.below hk) (by omega) m L' 0 hPA')
        unfold RPA at HPB
        rw [hL'n] at HPB
        rw [hLn] at HPA
        have hz0 : ((n0 : Int) == 0) = false := beq_false_of_ne (by omega)
        have hmm : (m != m) = false := by simp
        have H0 := hide h0
        have HLN := hide (And.intro hL'n (And.intro hLn hln))
        have HLK := hide hL'k
        have HLL := hide hL'L
        obtain ⟨ir, hir, hz0', hz1, hz2⟩ := info_parts infoRune12
        have HIR : Hid (Tryz.prog.info? 21 = some ir) := hir
        have HZ0 := hide hz0'
        have HZ1 := hide hz1
        have HZ2 := hide hz2
        obtain ⟨ii, hii, hy0, hy1, hy2⟩ := info_parts infoInt
        have HII : Hid (Tryz.prog.info? 3 = some ii) := hii
        have HY0 := hide hy0
        have HY1 := hide hy1
        have HY2 := hide hy2
        clear hm h0 f0 f1 f2 hPA hPA' hln hbig hL'n hL'k hL'L hLn hwf' hir hz0' hz1 hz2 hii hy0 hy1 hy2
        go_enter Tryz.func6, Tryz.ntmps6
        go_wp2_with fail
        refine HW.out.mono ?_
        rintro e w1 ⟨rfl, hk1⟩
        have HP1 := hide (HPA.out w1 hk1)
        have HK1 := hide hk1
        clear hk1 HPA HW
        go_wp2_with fail
        refine HP1.out.mono ?_
        rintro e w2 ⟨a2, c2, rfl, hr2, hk2⟩
        have HK2 := hide (KO.on HK1.out hk2)
        have HR2 := hide hr2
        clear hr2 hk2 HP1 HK1
        go_upto_region 9 with fail
        rw [ek]
        clear ek
        have hle := H0.out.le
        have hsl1 := fun w' => run_upto Tryz.underlying22 HIR.out cellsRune12 a0 n0 c0 k (by omega) w'
        have hsl2 := fun w' => run_from Tryz.underlying22 HIR.out cellsRune12 a0 n0 c0 k (by omega) w'
        go_cut [11] from 49 to 59 (fun s11 wx => ∃ a c, s11 = .slice a (n0 + 1) c ∧ Hid (Row .i32 wx a (n0 + 1) c (l.take k ++ 8203 :: l.drop k) ∧ KO w2 wx))
        case first =>
          have HR0 := hide (fun w' (hk : KO w2 w') => (show Row .i32 w' a0 k c0 (l.take k) from (H0.out.below (KO.on HK2.out hk)).take (by omega)))
          have HR1 := hide (fun w' (hk : KO w2 w') => (show Row .i32 w' (tl a0 c0 k) (n0 - k) (c0 - k) (l.drop k) from (H0.out.below (KO.on HK2.out hk)).drop (by omega)))
          have hK : KO w2 w2 := KO.refl _
          have hKd : KO w2 w2.drew := KO.drew hK
          have hKa : KO w2 (w2.drew.alloc (.cells #[] 21)) := KO.alloc hKd _
          have hKb : KO w2 (w2.drew.alloc (.cells #[.int .i32 8203] 21)) := KO.alloc hKd _
          have hKab : KO w2 ((w2.drew.alloc (.cells #[] 21)).alloc (.cells #[.int .i32 8203] 21)) := KO.alloc hKa _
          have hKba : KO w2 ((w2.drew.alloc (.cells #[.int .i32 8203] 21)).alloc (.cells #[] 21)) := KO.alloc hKb _
          have hOa : (w2.drew.alloc (.cells #[] 21)).ownsRow w2.heap.size 21 1 (.slice (some ⟨w2.heap.size, 0, none⟩) 0 0) 0 [] := owns_empty w2.drew 21 w2.heap.size rfl
          have hOab : ((w2.drew.alloc (.cells #[] 21)).alloc (.cells #[.int .i32 8203] 21)).ownsRow w2.heap.size 21 1 (.slice (some ⟨w2.heap.size, 0, none⟩) 0 0) 0 [] := hOa.alloc _
          have hOba : ((w2.drew.alloc (.cells #[.int .i32 8203] 21)).alloc (.cells #[] 21)).ownsRow w2.heap.size 21 1 (.slice (some ⟨w2.heap.size + 1, 0, none⟩) 0 0) 0 [] := owns_mono (owns_empty (w2.drew.alloc (.cells #[.int .i32 8203] 21)) 21 (w2.heap.size + 1) (by simp)) (by omega)
          have hRab : Row .i32 ((w2.drew.alloc (.cells #[] 21)).alloc (.cells #[.int .i32 8203] 21)) (some ⟨w2.heap.size + 1, 0, none⟩) 1 1 [8203] := by
            have := row_lit .i32 (w2.drew.alloc (.cells #[] 21)) [8203] 21 (by decide)
            simpa using this
          have hRba : Row .i32 ((w2.drew.alloc (.cells #[.int .i32 8203] 21)).alloc (.cells #[] 21)) (some ⟨w2.heap.size, 0, none⟩) 1 1 [8203] := (row_lit .i32 w2.drew [8203] 21 (by decide)).below (Below.alloc (Below.refl _ _) (Nat.le_refl _) _)
          have HOa := hide hOa
          have HOab := hide hOab
          have HOba := hide hOba
          have HRab := hide hRab
          have HRba := hide hRba
          clear hOa hOab hOba hRab hRba
          refine wp_region_noPanic ?_
          go_region_held_law (fun w' => KO w2 w') (first | assumption | exact KO.alloc (by assumption) _)
            (first
              | (refine step_append_rowG _ rfl (.tmp 49) (.tmp 52) 22 rfl w2.heap.size 21 ir (.int .i32 0) 4 Tryz.underlying22 HIR.out HZ0.out HZ1.out HZ2.out rfl (.slice (some ⟨w2.heap.size, 0, none⟩) 0 0) 0 [] rfl HOa.out .i32 a0 k c0 (l.take k) rfl (HR0.out _ hKa) (by omega) (by omega) (by simp) ?_; intro v3 w3 ho3 hg3; have hk3 : KO w2 w3 := grown_ko hKa HOa.out hg3)
              | (refine step_append_rowG _ rfl (.tmp 49) (.tmp 52) 22 rfl w2.heap.size 21 ir (.int .i32 0) 4 Tryz.underlying22 HIR.out HZ0.out HZ1.out HZ2.out rfl (.slice (some ⟨w2.heap.size, 0, none⟩) 0 0) 0 [] rfl HOab.out .i32 a0 k c0 (l.take k) rfl (HR0.out _ hKab) (by omega) (by omega) (by simp; omega) ?_; intro v3 w3 ho3 hg3; have hk3 : KO w2 w3 := grown_ko hKab HOab.out hg3; have hr3 := HRab.out.grown hg3 (by simp [Value.ownBlock]))
              | (refine step_append_rowG _ rfl (.tmp 49) (.tmp 52) 22 rfl w2.heap.size 21 ir (.int .i32 0) 4 Tryz.underlying22 HIR.out HZ0.out HZ1.out HZ2.out rfl (.slice (some ⟨w2.heap.size + 1, 0, none⟩) 0 0) 0 [] rfl HOba.out .i32 a0 k c0 (l.take k) rfl (HR0.out _ hKba) (by omega) (by omega) (by simp; omega) ?_; intro v3 w3 ho3 hg3; have hk3 : KO w2 w3 := grown_ko hKba HOba.out hg3; have hr3 := HRba.out.grown hg3 (by simp [Value.ownBlock]))
              | (refine step_append_rowG _ rfl (.tmp 53) (.tmp 54) 22 rfl w2.heap.size 21 ir (.int .i32 0) 4 Tryz.underlying22 HIR.out HZ0.out HZ1.out HZ2.out rfl _ (0 + k) _ rfl ho3 .i32 _ 1 1 [8203] rfl hr3 (by omega) (by omega) hk3.size ?_; intro v4 w4 ho4 hg4; have hk4 : KO w2 w4 := grown_ko hk3 ho3 hg4)
              | (refine step_append_rowG _ rfl (.tmp 53) (.tmp 54) 22 rfl w2.heap.size 21 ir (.int .i32 0) 4 Tryz.underlying22 HIR.out HZ0.out HZ1.out HZ2.out rfl _ (0 + k) _ rfl (ho3.alloc _) .i32 _ 1 1 [8203] rfl (row_lit .i32 w3 [8203] 21 (by decide)) (by omega) (by omega) (by have := hk3.size; simp; omega) ?_; intro v4 w4 ho4 hg4; have hk4 : KO w2 w4 := grown_ko (KO.alloc hk3 _) (ho3.alloc _) hg4)
              | (refine step_append_rowG _ rfl (.tmp 55) (.tmp 58) 22 rfl w2.heap.size 21 ir (.int .i32 0) 4 Tryz.underlying22 HIR.out HZ0.out HZ1.out HZ2.out rfl _ (0 + k + 1) _ rfl ho4 .i32 _ _ _ _ rfl (HR1.out _ hk4) (by omega) (by omega) hk4.size ?_; intro v5 w5 ho5 hg5; have hk5 : KO w2 w5 := grown_ko hk4 ho4 hg5))
          all_goals (
            refine NoPanic.normal ?_
            go_simp
            have hmap : [] ++ (l.take k).map (Value.int .i32) ++ [8203].map (Value.int .i32) ++ (l.drop k).map (Value.int .i32) = (l.take k ++ 8203 :: l.drop k).map (Value.int .i32) := by simp
            rw [hmap, show 0 + k + 1 + (n0 - k) = n0 + 1 by omega] at ho5
            obtain ⟨a5, c5, e5, hr5⟩ := row_of_owns ho5
            have HE := hide (And.intro hr5 hk5)
            subst e5
            clear ho3 ho4 ho5 hg3 hg4 hg5 hk3 hk4 hk5 hr5 hmap hK hKd hKa hKb hKab hKba hsl1 hsl2
            go_wp2
            go_meet
            exact ⟨_, _, rfl, HE⟩)
        obtain ⟨a5, c5, rfl, HE⟩ := hcut
        have HK5 := hide (KO.on HK2.out HE.out.2)
        have HP5 := hide (HPB.out wc a5 c5 HK5.out HE.out.1)
        have HR25 := hide (HR2.out.below HE.out.2)
        clear hsl1 hsl2 HPB HE HR2 HK2
        go_wp2_with fail
        refine HP5.out.mono ?_
        rintro e w6 ⟨a6, c6, rfl, hr6, hk6⟩
        have HR6 := hide hr6
        have HK6 := hide (KO.on HK5.out hk6)
        have HR26 := hide (HR25.out.below hk6)
        obtain ⟨b6, o6, e6, hb6, hc6⟩ := hr6.cells (by omega)
        have ck := hc6 k (by rw [HLN.out.1]; omega)
        rw [HLK.out] at ck
        clear hr6 hk6 HP5 HR25 HK5 hc6
        subst e6
        have hkn : (k : Int) < ((n0 + 1 : Nat) : Int) := by omega
        go_upto_region 13 with fail
        have hle6 := HR6.out.le
        have hsl1 := fun w' => run_upto Tryz.underlying24 HII.out cellsInt (some ⟨b6, o6, none⟩) (n0 + 1) c6 k (by omega) w'
        have hsl2 := fun w' => run_from Tryz.underlying24 HII.out cellsInt (some ⟨b6, o6, none⟩) (n0 + 1) c6 (k + 1) (by omega) w'
        rw [show ((k + 1 : Nat) : Int) = (k : Int) + 1 from by omega] at hsl2
        simp only [Nat.add_sub_add_right] at hsl2
        have ew : IntKind.i64.wrap ((k : Int) + 1) = (k : Int) + 1 := by rw [IntKind.wrap_i64]; omega
        have HR0 := hide (fun w' (hk : KO w6 w') => (show Row .i64 w' (some ⟨b6, o6, none⟩) k c6 (L'.take k) from (HR6.out.below hk).take (by omega)))
        have HR1 := hide (fun w' (hk : KO w6 w') => (show Row .i64 w' (tl (some ⟨b6, o6, none⟩) c6 (k + 1)) (n0 - k) (c6 - (k + 1)) (L'.drop (k + 1)) from by have := (HR6.out.below hk).drop (j := k + 1) (by omega); rw [Nat.add_sub_add_right] at this; exact this))
        have HIN := hide (fun W a c (hk : KO w6 W) (h : Row .i64 W a n0 c L) => ints_yes a2 a n0 c2 c L W (HR26.out.below hk) h)
        have HFIN := hide (fun (v : Value) (W : World) (ho : W.ownsRow w6.heap.size 3 1 v (0 + k + (n0 - k)) ([] ++ (L'.take k).map (Value.int .i64) ++ (L'.drop (k + 1)).map (Value.int .i64))) => (show ∃ a c, v = .slice a n0 c ∧ Row .i64 W a n0 c L from by
          have hmap : [] ++ (L'.take k).map (Value.int .i64) ++ (L'.drop (k + 1)).map (Value.int .i64) = L.map (Value.int .i64) := by rw [← HLL.out]; simp
          rw [hmap, show 0 + k + (n0 - k) = n0 by omega] at ho
          exact row_of_owns ho))
        have hK : KO w6 w6 := KO.refl _
        have hKd : KO w6 w6.drew := KO.drew hK
        have hKa : KO w6 (w6.drew.alloc (.cells #[] 3)) := KO.alloc hKd _
        clear ck hle6
        refine wp_region_noPanic ?_
        go_region_held_law (fun w' => KO w6 w') (first | assumption)
          (first
            | (refine step_append_row _ rfl (.tmp 90) (.tmp 93) 24 rfl w6.heap.size 3 ii (.int .i64 0) 8 Tryz.underlying24 HII.out HY0.out HY1.out HY2.out rfl _ 0 [] rfl (owns_empty w6.drew 3 w6.heap.size rfl) .i64 _ k c6 (L'.take k) rfl (HR0.out _ hKa) (by omega) (by omega) (by simp) ?_; intro v7 w7 ho7 hb7; have hk7 : KO w6 w7 := Below.trans hKa hb7)
            | (refine step_append_row _ rfl (.tmp 94) (.tmp 98) 24 rfl w6.heap.size 3 ii (.int .i64 0) 8 Tryz.underlying24 HII.out HY0.out HY1.out HY2.out rfl _ (0 + k) _ rfl ho7 .i64 _ _ _ _ rfl (HR1.out _ hk7) (by omega) (by omega) (Below.size hk7) ?_; intro v8 w8 ho8 hb8; have hk8 : KO w6 w8 := Below.trans hk7 hb8)
            | (obtain ⟨a8, c8, e8, hr8⟩ := HFIN.out v8 w8 ho8; subst e8; go_at_call 12; refine (HIN.out w8 a8 c8 hk8 hr8).mono ?_; rintro e w9 ⟨rfl, hd9⟩; have hk9 : KO w6 w9 := KO.on hk8 (below_of_drewN hd9)))
        refine NoPanic.normal ?_
        go_simp
        have HE9 := hide (KO.on HK6.out hk9)
        clear ho7 ho8 hb7 hb8 hk7 hk8 hk9 hr8 hd9 hK hKd hKa hsl1 hsl2 ew HR0 HR1 HIN HFIN
        go_wp2
        go_ret
        exact ⟨rfl, HE9.out⟩
    · have hEb : (E != 0) = true := bne_iff_ne.2 hE
      clear hm h0 f0 f1 f2 hPA hln hbig
      go_enter Tryz.func6, Tryz.ntmps6
      go_wp2_with fail
      refine HW.out.mono ?_
      rintro e w1 ⟨rfl, hk1⟩
      have HP1 := hide (HPA.out w1 hk1)
      have HK1 := hide hk1
      clear hk1 HPA HW
      go_wp2_with fail
      refine HP1.out.mono ?_
      rintro e w2 ⟨a2, c2, rfl, hr2, hk2⟩
      have HK2 := hide (KO.on HK1.out hk2)
      clear hr2 hk2 HP1 HK1
      go_wp2
      go_ret
      exact ⟨rfl, HK2.out⟩
end Go.Proofs.YtfadjgaledddjaaGreatDoor
