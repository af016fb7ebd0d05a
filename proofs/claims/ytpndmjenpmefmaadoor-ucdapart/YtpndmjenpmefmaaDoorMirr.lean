/- The contracts of Canon, Mirror and works. -/
import Derived.Test.YtpndmjenpmefmaaDoorSide
import Derived.WalkKit
import Derived.WalkSpells
import Derived.WalkLawsBesides
import Derived.Outline
namespace Go.Proofs.YtpndmjenpmefmaaDoor
open Go.RowKit Go.Maps
set_option linter.unusedVariables false
set_option maxHeartbeats 1000000
set_option maxRecDepth 100000
theorem canon_any (r : Int) (w : World) : Calls Tryd.prog 11 #[.int .i32 r] w fun e w' => e = .returned (.int .i32 (Ucd.canon r)) ∧ w = w' := by
  by_cases h1 : r = 9001
  · subst h1
    go_enter Tryd.func11, Tryd.ntmps11
    go_wp2
    go_ret
    exact ⟨rfl, rfl⟩
  · by_cases h2 : r = 9002
    · subst h2
      go_enter Tryd.func11, Tryd.ntmps11
      go_wp2
      go_ret
      exact ⟨rfl, rfl⟩
    · have HC : Hid (Ucd.canon r = r) := hide (by unfold Ucd.canon; rw [if_neg h1, if_neg h2])
      go_enter Tryd.func11, Tryd.ntmps11
      go_wp2
      go_ret
      exact ⟨ret_int HC.out.symm, rfl⟩
theorem miInfo : (Tryd.prog.info? 42).map (·.size) = some (pairCells Ucd.mirrored).size := by kernel_rfl
theorem miSize : (pairCells Ucd.mirrored).size = 20 := by kernel_rfl
theorem oth_step (r : Int) : ∀ (l : List (Int × Int)) (i : Nat), i < l.length → Ucd.oth (l.drop i) r = if r = (l.getD i (0, 0)).1 then some (l.getD i (0, 0)).2 else if r = (l.getD i (0, 0)).2 then some (l.getD i (0, 0)).1 else Ucd.oth (l.drop (i + 1)) r := by
  intro l i h
  rw [List.drop_eq_getElem_cons h]
  have e : l.getD i (0, 0) = l[i] := by simp [List.getD, List.getElem?_eq_getElem h]
  simp only [Ucd.oth, e]
theorem ret_rune_bool {a : Int} {b : Bool} {s : Int × Bool} (h : s = (a, b)) : Ending.returned (.tuple #[.int .i32 a, .bool b]) = .returned (.tuple #[.int .i32 s.1, .bool s.2]) := by rw [h]
theorem mirror_any (r : Int) (w : World) (hr : (Lit.int .i32 r).wf = true) (hm : Marks w) :
    Calls Tryd.prog 9 #[.int .i32 r] w fun e w' => e = .returned (.tuple #[.int .i32 (Ucd.mir r).1, .bool (Ucd.mir r).2]) ∧ Below w.heap.size w w' := by
  have HR := hide hr
  have HM := hide hm
  clear hr hm
  by_cases hk : (Ucd.side r).1 = 0
  · have HX : Hid (Ucd.mir r = match Ucd.oth (Ucd.mirrored.drop 0) r with | some m => (m, true) | none => (0, false)) := hide (by unfold Ucd.mir; rw [if_pos hk]; rfl)
    go_enter Tryd.func9, Tryd.ntmps9
    go_wp2_with fail
    refine (bracket_any r w HR.out HM.out).mono ?_
    rintro e w1 ⟨rfl, hb1⟩
    rw [hk]
    have HM1 := hide (HM.out.below hb1)
    have HC : Hid (∀ i, i < (pairCells Ucd.mirrored).size → w1.cell? ⟨0, i, none⟩ = (pairCells Ucd.mirrored)[i]?) := hide fun i hi => HM1.out.1 i (by rw [miSize] at hi; exact hi)
    generalize (Ucd.side r).2 = z at *
    go_wp2_with (first
      | (refine wpList_load_cells rfl 42 _ rfl 0 rfl (pairCells Ucd.mirrored) _ HC.out Tryd.underlying42 rfl miInfo ?_))
    go_loopw [17] (fun s17 wr => ∃ i : Nat, s17 = .int .i64 i ∧ i ≤ 10 ∧ Below w1.heap.size w1 wr ∧ Hid (Ucd.mir r = match Ucd.oth (Ucd.mirrored.drop i) r with | some m => (m, true) | none => (0, false))) (fun s17 _ => (10 - intOf s17).toNat)
    case atStart => exact ⟨0, rfl, by omega, Below.refl _ _, HX⟩
    case round =>
      obtain ⟨i, rfl, hi, hb, HI⟩ := hrel
      by_cases hi2 : i < 10
      · have hix := run_index_pair 42 10 Tryd.underlying42 Ucd.mirrored rfl wr hi2
        have hst := oth_step r Ucd.mirrored i hi2
        have HB := hide (hb1.trans ((hb.alloc hb.size (.cells #[.int .i32 (Ucd.mirrored.getD i (0, 0)).1, .int .i32 (Ucd.mirrored.getD i (0, 0)).2] 41)).mono hb1.size))
        have HBr := hide (hb.alloc hb.size (.cells #[.int .i32 (Ucd.mirrored.getD i (0, 0)).1, .int .i32 (Ucd.mirrored.getD i (0, 0)).2] 41))
        have HST := hide hst
        clear hst
        generalize (Ucd.mirrored.getD i (0, 0)).1 = pa at *
        generalize (Ucd.mirrored.getD i (0, 0)).2 = pb at *
        obtain ⟨g0, g1⟩ := cells2 wr (.int .i32 pa) (.int .i32 pb) 41
        by_cases h1 : r = pa
        · have HY : Hid (Ucd.mir r = (pb, true)) := hide (by have := HI.out; rw [HST.out, if_pos h1] at this; exact this)
          subst h1
          go_wp2_with (first
            | (refine wpList_store_new wr rfl 41 _ _ rfl rfl #[.int .i32 0, .int .i32 0] #[.int .i32 r, .int .i32 pb] rfl rfl (two_info pairInfo _ _) rfl (two_one _ _) ?_))
          go_ret2
          exact ⟨ret_rune_bool HY.out, HB.out⟩
        · by_cases h2 : r = pb
          · have HY : Hid (Ucd.mir r = (pa, true)) := hide (by have := HI.out; rw [HST.out, if_neg h1, if_pos h2] at this; exact this)
            subst h2
            go_wp2_with (first
              | (refine wpList_store_new wr rfl 41 _ _ rfl rfl #[.int .i32 0, .int .i32 0] #[.int .i32 pa, .int .i32 r] rfl rfl (two_info pairInfo _ _) rfl (two_one _ _) ?_))
            go_ret2
            exact ⟨ret_rune_bool HY.out, HB.out⟩
          · have HY : Hid (Ucd.mir r = match Ucd.oth (Ucd.mirrored.drop (i + 1)) r with | some m => (m, true) | none => (0, false)) := hide (by have := HI.out; rw [HST.out, if_neg h1, if_neg h2] at this; exact this)
            go_wp2_with (first
              | (refine wpList_store_new wr rfl 41 _ _ rfl rfl #[.int .i32 0, .int .i32 0] #[.int .i32 pa, .int .i32 pb] rfl rfl (two_info pairInfo _ _) rfl (two_one _ _) ?_))
            go_roundw
            case rel => exact ⟨i + 1, by first | rfl | (congr 1), by omega, HBr.out, HY⟩
            case measure => simp [intOf]; omega
      · obtain rfl : i = 10 := by omega
        have HY : Hid (Ucd.mir r = (0, false)) := hide (by have := HI.out; rw [List.drop_of_length_le (by decide)] at this; exact this)
        go_wp2
        go_ret2
        exact ⟨ret_rune_bool HY.out, hb1.trans (hb.mono hb1.size)⟩
  · have HX : Hid (Ucd.mir r = ((Ucd.side r).2, true)) := hide (by unfold Ucd.mir; rw [if_neg hk])
    go_enter Tryd.func9, Tryd.ntmps9
    go_wp2_with fail
    refine (bracket_any r w HR.out HM.out).mono ?_
    rintro e w1 ⟨rfl, hb1⟩
    go_wp2
    go_ret2
    exact ⟨ret_rune_bool HX.out, hb1⟩
theorem works_any (w : World) (hm : Marks w) : Calls Tryd.prog 14 #[] w fun e w' => e = .returned (.bool true) ∧ Below w.heap.size w w' := by
  obtain ⟨k1, k2, k3, k4, k5, k6, k7, k8⟩ := Ucd.works_at
  have B0 := hide (bracket_any 40 w (by decide) hm)
  rw [k1] at B0
  have HM := hide hm
  clear hm
  go_enter Tryd.func14, Tryd.ntmps14
  go_wp2_with fail
  refine B0.out.mono ?_
  rintro e w1 ⟨rfl, hb1⟩
  have HM1 := hide (HM.out.below hb1)
  go_wp2_with fail
  refine (mirror_any 60 w1 (by decide) HM1.out).mono ?_
  rintro e w2 ⟨rfl, hb2⟩
  rw [k2]
  have HB2 := hide (hb1.trans (hb2.mono hb1.size))
  clear hb1 hb2
  go_wp2_with fail
  refine (class_any 97 w2 (by decide)).mono ?_
  rintro e w3 ⟨rfl, hb3⟩
  rw [k3]
  go_wp2_with fail
  refine (class_any 1488 w3 (by decide)).mono ?_
  rintro e w4 ⟨rfl, hb4⟩
  rw [k4]
  go_wp2_with fail
  refine (class_any 1633 w4 (by decide)).mono ?_
  rintro e w5 ⟨rfl, hb5⟩
  rw [k5]
  go_wp2_with fail
  refine (class_any 8295 w5 (by decide)).mono ?_
  rintro e w6 ⟨rfl, hb6⟩
  rw [k6]
  go_wp2_with fail
  refine (class_any 55296 w6 (by decide)).mono ?_
  rintro e w7 ⟨rfl, hb7⟩
  rw [k7]
  go_wp2_with fail
  refine (canon_any 9001 w7).mono ?_
  rintro e w8 ⟨rfl, rfl⟩
  rw [k8]
  go_wp2
  go_ret
  have e3 := HB2.out.trans (hb3.mono HB2.out.size)
  have e4 := e3.trans (hb4.mono e3.size)
  have e5 := e4.trans (hb5.mono e4.size)
  have e6 := e5.trans (hb6.mono e5.size)
  exact ⟨rfl, e6.trans (hb7.mono e6.size)⟩
end Go.Proofs.YtpndmjenpmefmaaDoor
