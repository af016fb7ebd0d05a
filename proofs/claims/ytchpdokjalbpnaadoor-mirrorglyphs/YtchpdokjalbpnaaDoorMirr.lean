/- The contracts of Canon, Mirror and works. -/
import Derived.Test.YtchpdokjalbpnaaDoorSide
import Derived.WalkKit
import Derived.WalkSpells
import Derived.WalkLawsBesides
import Derived.Outline
namespace Go.Proofs.YtchpdokjalbpnaaDoor
open Go.RowKit Go.Maps
set_option linter.unusedVariables false
set_option maxHeartbeats 1000000
set_option maxRecDepth 100000
theorem miInfo : (Tryd.prog.info? 56).map (·.size) = some (pairCells Ucd.mirrored).size := by kernel_rfl
theorem miSize : (pairCells Ucd.mirrored).size = 20 := by kernel_rfl
theorem oth_step (r : Int) : ∀ (l : List (Int × Int)) (i : Nat), i < l.length → Ucd.oth (l.drop i) r = if r = (l.getD i (0, 0)).1 then some (l.getD i (0, 0)).2 else if r = (l.getD i (0, 0)).2 then some (l.getD i (0, 0)).1 else Ucd.oth (l.drop (i + 1)) r := by
  intro l i h
  rw [List.drop_eq_getElem_cons h]
  have e : l.getD i (0, 0) = l[i] := by simp [List.getD, List.getElem?_eq_getElem h]
  simp only [Ucd.oth, e]
theorem ret_rune_bool {a : Int} {b : Bool} {s : Int × Bool} (h : s = (a, b)) : Ending.returned (.tuple #[.int .i32 a, .bool b]) = .returned (.tuple #[.int .i32 s.1, .bool s.2]) := by rw [h]
theorem mirror_any (r : Int) (w : World) (hr : (Lit.int .i32 r).wf = true) (hm : Marks w) :
    Calls Tryd.prog 17 #[.int .i32 r] w fun e w' => e = .returned (.tuple #[.int .i32 (Ucd.mir r).1, .bool (Ucd.mir r).2]) ∧ Below w.heap.size w w' := by
  have HR := hide hr
  have HM := hide hm
  clear hr hm
  by_cases hk : (Ucd.side r).1 = 0
  · have HX : Hid (Ucd.mir r = match Ucd.oth (Ucd.mirrored.drop 0) r with | some m => (m, true) | none => (0, false)) := hide (by unfold Ucd.mir; rw [if_pos hk]; rfl)
    go_enter Tryd.func17, Tryd.ntmps17
    go_wp2_with fail
    refine (bracket_any r w HR.out HM.out).mono ?_
    rintro e w1 ⟨rfl, hb1⟩
    rw [hk]
    have HM1 := hide (HM.out.below hb1)
    have HC : Hid (∀ i, i < (pairCells Ucd.mirrored).size → w1.cell? ⟨0, i, none⟩ = (pairCells Ucd.mirrored)[i]?) := hide fun i hi => HM1.out.1 i (by rw [miSize] at hi; exact hi)
    generalize (Ucd.side r).2 = z at *
    go_wp2_with (first
      | (refine wpList_load_cells rfl 56 _ rfl 0 rfl (pairCells Ucd.mirrored) _ HC.out Tryd.underlying56 rfl miInfo ?_))
    go_loopw [17] (fun s17 wr => ∃ i : Nat, s17 = .int .i64 i ∧ i ≤ 10 ∧ Below w1.heap.size w1 wr ∧ Hid (Ucd.mir r = match Ucd.oth (Ucd.mirrored.drop i) r with | some m => (m, true) | none => (0, false))) (fun s17 _ => (10 - intOf s17).toNat)
    case atStart => exact ⟨0, rfl, by omega, Below.refl _ _, HX⟩
    case round =>
      obtain ⟨i, rfl, hi, hb, HI⟩ := hrel
      by_cases hi2 : i < 10
      · have hix := run_index_pair 56 10 Tryd.underlying56 Ucd.mirrored rfl wr hi2
        have hst := oth_step r Ucd.mirrored i hi2
        have HB := hide (hb1.trans ((hb.alloc hb.size (.cells #[.int .i32 (Ucd.mirrored.getD i (0, 0)).1, .int .i32 (Ucd.mirrored.getD i (0, 0)).2] 55)).mono hb1.size))
        have HBr := hide (hb.alloc hb.size (.cells #[.int .i32 (Ucd.mirrored.getD i (0, 0)).1, .int .i32 (Ucd.mirrored.getD i (0, 0)).2] 55))
        have HST := hide hst
        clear hst
        generalize (Ucd.mirrored.getD i (0, 0)).1 = pa at *
        generalize (Ucd.mirrored.getD i (0, 0)).2 = pb at *
        obtain ⟨g0, g1⟩ := cells2 wr (.int .i32 pa) (.int .i32 pb) 55
        by_cases h1 : r = pa
        · have HY : Hid (Ucd.mir r = (pb, true)) := hide (by have := HI.out; rw [HST.out, if_pos h1] at this; exact this)
          subst h1
          go_wp2_with (first
            | (refine wpList_store_new wr rfl 55 _ _ rfl rfl #[.int .i32 0, .int .i32 0] #[.int .i32 r, .int .i32 pb] rfl rfl (two_info pairInfo32 _ _) rfl (two_one _ _) ?_))
          go_ret2
          exact ⟨ret_rune_bool HY.out, HB.out⟩
        · by_cases h2 : r = pb
          · have HY : Hid (Ucd.mir r = (pa, true)) := hide (by have := HI.out; rw [HST.out, if_neg h1, if_pos h2] at this; exact this)
            subst h2
            go_wp2_with (first
              | (refine wpList_store_new wr rfl 55 _ _ rfl rfl #[.int .i32 0, .int .i32 0] #[.int .i32 pa, .int .i32 r] rfl rfl (two_info pairInfo32 _ _) rfl (two_one _ _) ?_))
            go_ret2
            exact ⟨ret_rune_bool HY.out, HB.out⟩
          · have HY : Hid (Ucd.mir r = match Ucd.oth (Ucd.mirrored.drop (i + 1)) r with | some m => (m, true) | none => (0, false)) := hide (by have := HI.out; rw [HST.out, if_neg h1, if_neg h2] at this; exact this)
            go_wp2_with (first
              | (refine wpList_store_new wr rfl 55 _ _ rfl rfl #[.int .i32 0, .int .i32 0] #[.int .i32 pa, .int .i32 pb] rfl rfl (two_info pairInfo32 _ _) rfl (two_one _ _) ?_))
            go_roundw
            case rel => exact ⟨i + 1, by first | rfl | (congr 1), by omega, HBr.out, HY⟩
            case measure => simp [intOf]; omega
      · obtain rfl : i = 10 := by omega
        have HY : Hid (Ucd.mir r = (0, false)) := hide (by have := HI.out; rw [List.drop_of_length_le (by decide)] at this; exact this)
        go_wp2
        go_ret2
        exact ⟨ret_rune_bool HY.out, hb1.trans (hb.mono hb1.size)⟩
  · have HX : Hid (Ucd.mir r = ((Ucd.side r).2, true)) := hide (by unfold Ucd.mir; rw [if_neg hk])
    go_enter Tryd.func17, Tryd.ntmps17
    go_wp2_with fail
    refine (bracket_any r w HR.out HM.out).mono ?_
    rintro e w1 ⟨rfl, hb1⟩
    go_wp2
    go_ret2
    exact ⟨ret_rune_bool HX.out, hb1⟩
end Go.Proofs.YtchpdokjalbpnaaDoor
