import Derived.Test.YtfadjgaledddjaaGreatDoorZo
/- The chapter's examples. -/
namespace Go.Proofs.YtfadjgaledddjaaGreatDoor
open Go.RowKit
set_option linter.unusedVariables false
set_option maxHeartbeats 1000000
set_option maxRecDepth 100000
theorem ex12a : Rn.cl [1488, 97] = [2, 1] := by decide +kernel
theorem ex12b : Rn.cl [97, 1488, 49] = [1, 2, 4] := by decide +kernel
theorem ex12c : Rn.cl [1488, 40, 97, 41] = [2, 14, 1, 14] := by decide +kernel
theorem ex12d : Rn.cl [97] = [1] := by decide +kernel
theorem fo12a : Ex.Formed [2, 1] := by
  intro i hi
  match i, hi with
  | 0, _ => decide
  | 1, _ => decide
theorem fo12b : Ex.Formed [1, 2, 4] := by
  intro i hi
  match i, hi with
  | 0, _ => decide
  | 1, _ => decide
  | 2, _ => decide
theorem fo12c : Ex.Formed [2, 14, 1, 14] := by
  intro i hi
  match i, hi with
  | 0, _ => decide
  | 1, _ => decide
  | 2, _ => decide
  | 3, _ => decide
theorem pa12a : Rn.PA [1488, 97] (-1) 1 [1, 2] 0 := .inr (.inr (.inr ⟨⟨by decide, by decide⟩, by decide, by rw [ex12a]; exact fo12a, by decide +kernel, by decide +kernel, rfl⟩))
theorem pa12b : Rn.PA [97, 1488, 49] 0 0 [0, 1, 2] 0 := .inr (.inr (.inr ⟨⟨by decide, by decide⟩, by decide, by rw [ex12b]; exact fo12b, by decide +kernel, by decide +kernel, rfl⟩))
theorem pa12c : Rn.PA [1488, 40, 97, 41] (-1) 1 [1, 1, 2, 1] 0 := .inr (.inr (.inr ⟨⟨by decide, by decide⟩, by decide, by rw [ex12c]; exact fo12c, by decide +kernel, by decide +kernel, rfl⟩))
end Go.Proofs.YtfadjgaledddjaaGreatDoor

/- works: the chapter's examples, told. -/
namespace Go.Proofs.YtfadjgaledddjaaGreatDoor
open Go.RowKit
set_option linter.unusedVariables false
set_option maxHeartbeats 1000000
set_option maxRecDepth 100000
theorem works12_any (w : World) (hm : Marks w) : Calls Tryz.prog 9 #[] w fun e w' => e = .returned (.bool true) ∧ KO w w' := by
  have hal : ∀ (w' : World) o, KO w' (w'.alloc o) := fun w' o => KO.alloc (KO.refl _) _
  have HA := hide (fun (w' : World) (hk : KO w w') => paragraph_any (some ⟨w'.heap.size, 0, none⟩) 2 2 [1488, 97] (-1) (w'.alloc (.cells #[.int .i32 1488, .int .i32 97] 21)) (row_lit .i32 w' [1488, 97] 21 (by decide)) (by decide) (hm.below (KO.on hk (hal w' _))) (.inl (by omega)) 1 [1, 2] 0 pa12a)
  have HB := hide (fun (w' : World) (hk : KO w w') => paragraph_any (some ⟨w'.heap.size, 0, none⟩) 3 3 [97, 1488, 49] 0 (w'.alloc (.cells #[.int .i32 97, .int .i32 1488, .int .i32 49] 21)) (row_lit .i32 w' [97, 1488, 49] 21 (by decide)) (by decide) (hm.below (KO.on hk (hal w' _))) (.inl (by omega)) 0 [0, 1, 2] 0 pa12b)
  have HC := hide (fun (w' : World) (hk : KO w w') => paragraph_any (some ⟨w'.heap.size, 0, none⟩) 4 4 [1488, 40, 97, 41] (-1) (w'.alloc (.cells #[.int .i32 1488, .int .i32 40, .int .i32 97, .int .i32 41] 21)) (row_lit .i32 w' [1488, 40, 97, 41] 21 (by decide)) (by decide) (hm.below (KO.on hk (hal w' _))) (.inl (by omega)) 1 [1, 1, 2, 1] 0 pa12c)
  have HD : Hid (∀ w' : World, Calls Tryz.prog 14 #[.slice (some ⟨w'.heap.size, 0, none⟩) 1 1] (w'.alloc (.cells #[.int .i32 97] 21)) fun e w'' => ∃ g, e = .returned (.slice (some ⟨g, 0, none⟩) 1 1) ∧ Row .i64 w'' (some ⟨g, 0, none⟩) 1 1 [1] ∧ KO (w'.alloc (.cells #[.int .i32 97] 21)) w'') := hide fun w' => by
    have := classes_any (some ⟨w'.heap.size, 0, none⟩) 1 1 [97] (w'.alloc (.cells #[.int .i32 97] 21)) (row_lit .i32 w' [97] 21 (by decide)) (by decide) (by omega)
    rw [ex12d] at this
    exact this.mono fun e w'' ⟨he, hn⟩ => ⟨_, he, hn.row, hn.bel⟩
  have HAL := hide hal
  clear hm hal
  go_enter Tryz.func9, Tryz.ntmps9
  go_wp2_with fail
  refine (HA.out w (KO.refl w)).mono ?_
  rintro e w1 ⟨a1, c1, rfl, hr1, hk1⟩
  simp only [List.length_cons, List.length_nil, Nat.zero_add, Nat.reduceAdd] at hr1 ⊢
  have K1 := hide (show KO w w1 from KO.on (HAL.out w _) hk1)
  have N1 := hide (show Row .i64 w1 a1 2 c1 [1, 2] from hr1)
  clear hr1 hk1 HA
  go_wp2_with fail
  refine (HB.out w1 K1.out).mono ?_
  rintro e w2 ⟨a2, c2, rfl, hr2, hk2⟩
  simp only [List.length_cons, List.length_nil, Nat.zero_add, Nat.reduceAdd] at hr2 ⊢
  have K2 := hide (show KO w1 w2 from KO.on (HAL.out w1 _) hk2)
  have N2 := hide (show Row .i64 w2 a2 3 c2 [0, 1, 2] from hr2)
  clear hr2 hk2 HB
  go_wp2_with fail
  refine (HC.out w2 (KO.on K1.out K2.out)).mono ?_
  rintro e w3 ⟨a3, c3, rfl, hr3, hk3⟩
  simp only [List.length_cons, List.length_nil, Nat.zero_add, Nat.reduceAdd] at hr3 ⊢
  have K3 := hide (show KO w2 w3 from KO.on (HAL.out w2 _) hk3)
  have N3 := hide (show Row .i64 w3 a3 4 c3 [1, 1, 2, 1] from hr3)
  clear hr3 hk3 HC
  have HI1 := hide (ints_yes a1 (some ⟨w3.heap.size, 0, none⟩) 2 c1 2 [1, 2] _ (N1.out.below (KO.on K2.out (KO.on K3.out (HAL.out w3 _)))) (row_lit .i64 w3 [1, 2] 3 (by decide)))
  go_wp2_with fail
  refine HI1.out.mono ?_
  rintro e w4 ⟨rfl, hd4⟩
  have K4 := hide (show KO w3 w4 from KO.on (HAL.out w3 _) (below_of_drewN hd4))
  clear hd4 HI1
  have HI2 := hide (ints_yes a2 (some ⟨w4.heap.size, 0, none⟩) 3 c2 3 [0, 1, 2] _ (N2.out.below (KO.on K3.out (KO.on K4.out (HAL.out w4 _)))) (row_lit .i64 w4 [0, 1, 2] 3 (by decide)))
  go_wp2_with fail
  refine HI2.out.mono ?_
  rintro e w5 ⟨rfl, hd5⟩
  have K5 := hide (show KO w4 w5 from KO.on (HAL.out w4 _) (below_of_drewN hd5))
  clear hd5 HI2
  have HI3 := hide (ints_yes a3 (some ⟨w5.heap.size, 0, none⟩) 4 c3 4 [1, 1, 2, 1] _ (N3.out.below (KO.on K4.out (KO.on K5.out (HAL.out w5 _)))) (row_lit .i64 w5 [1, 1, 2, 1] 3 (by decide)))
  go_wp2_with fail
  refine HI3.out.mono ?_
  rintro e w6 ⟨rfl, hd6⟩
  have K6 := hide (show KO w5 w6 from KO.on (HAL.out w5 _) (below_of_drewN hd6))
  clear hd6 HI3
  have HD6 := hide (HD.out w6)
  go_wp2_with fail
  refine HD6.out.mono ?_
  rintro e w7 ⟨g7, rfl, hr7, hk7⟩
  have K7 := hide (show KO w6 w7 from KO.on (HAL.out w6 _) hk7)
  have HI4 := hide (ints_yes (some ⟨g7, 0, none⟩) (some ⟨w7.heap.size, 0, none⟩) 1 1 1 [1] _ (hr7.below (HAL.out w7 _)) (row_lit .i64 w7 [1] 3 (by decide)))
  clear hr7 hk7 HD6 HD
  go_wp2_with fail
  refine HI4.out.mono ?_
  rintro e w8 ⟨rfl, hd8⟩
  have K8 := hide (show KO w7 w8 from KO.on (HAL.out w7 _) (below_of_drewN hd8))
  clear hd8 HI4
  go_wp2
  go_ret
  exact ⟨rfl, KO.on K1.out (KO.on K2.out (KO.on K3.out (KO.on K4.out (KO.on K5.out (KO.on K6.out (KO.on K7.out K8.out))))))⟩
end Go.Proofs.YtfadjgaledddjaaGreatDoor
