/- The walks of UcdPairs and UcdTwice. -/
import Derived.Test.YtpndmjenpmefmaaDoorMirr
import Derived.WalkKit
import Derived.WalkSpells
import Derived.WalkLawsBesides
import Derived.Outline
namespace Go.Proofs.YtpndmjenpmefmaaDoor
open Go.RowKit Go.Maps
set_option linter.unusedVariables false
set_option maxHeartbeats 1000000
set_option maxRecDepth 100000
theorem UcdTwice_walk (w : World) (hm : Marks w) (r : Int) (hr : (Lit.int .i32 r).wf = true) : Calls Tryd.prog 6 #[.int .i32 r] w fun e w' => e = .returned (.bool true) ∧ Below w.heap.size w w' := by
  have HR := hide hr
  have HM := hide hm
  obtain ⟨c1, c2⟩ := Ucd.canon_twice r
  have HC2 := hide c2
  have HCW := hide (WalkArith.wf_i32 (Ucd.canon_ok (bounds_i32 hr)))
  have hmo := Ucd.mir_ok r
  have HMW := hide (WalkArith.wf_i32 (n := (Ucd.mir r).1) (by omega))
  clear hr hm c2 hmo
  cases hb : (Ucd.mir r).2
  · go_enter Tryd.func6, Tryd.ntmps6
    go_wp2_with fail
    refine (works_any w HM.out).mono ?_
    rintro e w1 ⟨rfl, hb1⟩
    have HM1 := hide (HM.out.below hb1)
    go_wp2_with fail
    refine (mirror_any r w1 HR.out HM1.out).mono ?_
    rintro e w2 ⟨rfl, hb2⟩
    rw [hb]
    go_wp2_with fail
    refine (canon_any r w2).mono ?_
    rintro e w3 ⟨rfl, rfl⟩
    go_wp2_with fail
    refine (canon_any (Ucd.canon r) w2).mono ?_
    rintro e w3 ⟨rfl, rfl⟩
    rw [c1]
    go_wp2_with fail
    refine (class_any (Ucd.canon r) w2 HCW.out).mono ?_
    rintro e w4 ⟨rfl, hb4⟩
    rw [HC2.out]
    go_wp2_with fail
    refine (class_any r w4 HR.out).mono ?_
    rintro e w5 ⟨rfl, hb5⟩
    go_wp2
    go_ret
    have e2 := hb1.trans (hb2.mono hb1.size)
    have e4 := e2.trans (hb4.mono e2.size)
    exact ⟨rfl, e4.trans (hb5.mono e4.size)⟩
  · have HT := hide (Ucd.twice hb)
    go_enter Tryd.func6, Tryd.ntmps6
    go_wp2_with fail
    refine (works_any w HM.out).mono ?_
    rintro e w1 ⟨rfl, hb1⟩
    have HM1 := hide (HM.out.below hb1)
    go_wp2_with fail
    refine (mirror_any r w1 HR.out HM1.out).mono ?_
    rintro e w2 ⟨rfl, hb2⟩
    rw [hb]
    have HM2 := hide (HM1.out.below hb2)
    go_wp2_with fail
    refine (mirror_any (Ucd.mir r).1 w2 HMW.out HM2.out).mono ?_
    rintro e w3 ⟨rfl, hb3⟩
    rw [HT.out]
    go_wp2_with fail
    refine (canon_any r w3).mono ?_
    rintro e w4 ⟨rfl, rfl⟩
    go_wp2_with fail
    refine (canon_any (Ucd.canon r) w3).mono ?_
    rintro e w4 ⟨rfl, rfl⟩
    rw [c1]
    go_wp2_with fail
    refine (class_any (Ucd.canon r) w3 HCW.out).mono ?_
    rintro e w4 ⟨rfl, hb4⟩
    rw [HC2.out]
    go_wp2_with fail
    refine (class_any r w4 HR.out).mono ?_
    rintro e w5 ⟨rfl, hb5⟩
    go_wp2
    go_ret
    have e2 := hb1.trans (hb2.mono hb1.size)
    have e3 := e2.trans (hb3.mono e2.size)
    have e4 := e3.trans (hb4.mono e3.size)
    exact ⟨rfl, e4.trans (hb5.mono e4.size)⟩
theorem UcdPairs_walk (w : World) (hm : Marks w) (r : Int) (hr : (Lit.int .i32 r).wf = true) : Calls Tryd.prog 5 #[.int .i32 r] w fun e w' => e = .returned (.bool true) ∧ Below w.heap.size w w' := by
  have HR := hide hr
  have HM := hide hm
  have HCW := hide (WalkArith.wf_i32 (Ucd.canon_ok (bounds_i32 hr)))
  have hmo := Ucd.mir_ok r
  have HMW := hide (WalkArith.wf_i32 (n := (Ucd.mir r).1) (by omega))
  have hso := Ucd.side_ok r
  have HSW := hide (WalkArith.wf_i32 (n := (Ucd.side r).2) (by omega))
  clear hr hm hmo hso
  cases hb : (Ucd.mir r).2
  · obtain ⟨n1, n2, n3⟩ := Ucd.pairs_no hb
    go_enter Tryd.func5, Tryd.ntmps5
    go_wp2_with fail
    refine (works_any w HM.out).mono ?_
    rintro e w1 ⟨rfl, hb1⟩
    have HM1 := hide (HM.out.below hb1)
    go_wp2_with fail
    refine (mirror_any r w1 HR.out HM1.out).mono ?_
    rintro e w2 ⟨rfl, hb2⟩
    have HM2 := hide (HM1.out.below hb2)
    rw [hb, n1]
    go_wp2_with fail
    refine (bracket_any r w2 HR.out HM2.out).mono ?_
    rintro e w3 ⟨rfl, hb3⟩
    rw [n2, n3]
    go_wp2
    go_ret
    have e2 := hb1.trans (hb2.mono hb1.size)
    exact ⟨rfl, e2.trans (hb3.mono e2.size)⟩
  · obtain ⟨y1, y2, y3, y4, y5⟩ := Ucd.pairs_yes hb
    by_cases hk : (Ucd.side r).1 = 0
    · have z0 := y4 hk
      clear y4 y5
      go_enter Tryd.func5, Tryd.ntmps5
      go_wp2_with fail
      refine (works_any w HM.out).mono ?_
      rintro e w1 ⟨rfl, hb1⟩
      have HM1 := hide (HM.out.below hb1)
      go_wp2_with fail
      refine (mirror_any r w1 HR.out HM1.out).mono ?_
      rintro e w2 ⟨rfl, hb2⟩
      have HM2 := hide (HM1.out.below hb2)
      rw [hb]
      go_wp2_with fail
      refine (bracket_any r w2 HR.out HM2.out).mono ?_
      rintro e w3 ⟨rfl, hb3⟩
      rw [hk, z0]
      go_wp2_with fail
      refine (class_any r w3 HR.out).mono ?_
      rintro e w4 ⟨rfl, hb4⟩
      rw [y1]
      go_wp2_with fail
      refine (class_any (Ucd.mir r).1 w4 HMW.out).mono ?_
      rintro e w5 ⟨rfl, hb5⟩
      rw [y2]
      go_wp2
      go_ret
      have e2 := hb1.trans (hb2.mono hb1.size)
      have e3 := e2.trans (hb3.mono e2.size)
      have e4 := e3.trans (hb4.mono e3.size)
      exact ⟨rfl, e4.trans (hb5.mono e4.size)⟩
    · obtain ⟨q1, q2, q3, q4, q5, q6⟩ := y5 hk
      have HQ6 := hide q6
      have HQ2 := hide q2
      have HQ3 := hide q3
      have HQ5 := hide q5
      have HS : Hid ((Ucd.side r).2 = (Ucd.mir r).1) := hide q4
      clear y4 y5 q2 q3 q4 q5 q6
      go_enter Tryd.func5, Tryd.ntmps5
      go_wp2_with fail
      refine (works_any w HM.out).mono ?_
      rintro e w1 ⟨rfl, hb1⟩
      have HM1 := hide (HM.out.below hb1)
      go_wp2_with fail
      refine (mirror_any r w1 HR.out HM1.out).mono ?_
      rintro e w2 ⟨rfl, hb2⟩
      have HM2 := hide (HM1.out.below hb2)
      rw [hb]
      go_wp2_with fail
      refine (bracket_any r w2 HR.out HM2.out).mono ?_
      rintro e w3 ⟨rfl, hb3⟩
      have HM3 := hide (HM2.out.below hb3)
      go_wp2_with fail
      refine (class_any r w3 HR.out).mono ?_
      rintro e w4 ⟨rfl, hb4⟩
      have HM4 := hide (HM3.out.below hb4)
      rw [y1]
      go_wp2_with fail
      refine (class_any (Ucd.mir r).1 w4 HMW.out).mono ?_
      rintro e w5 ⟨rfl, hb5⟩
      have HM5 := hide (HM4.out.below hb5)
      rw [y2]
      go_wp2_with fail
      refine (bracket_any (Ucd.side r).2 w5 HSW.out HM5.out).mono ?_
      rintro e w6 ⟨rfl, hb6⟩
      have HM6 := hide (HM5.out.below hb6)
      rw [HQ2.out, HQ3.out]
      go_wp2_with fail
      refine (canon_any r w6).mono ?_
      rintro e w7 ⟨rfl, rfl⟩
      go_wp2_with fail
      refine (bracket_any (Ucd.canon r) w6 HCW.out HM6.out).mono ?_
      rintro e w7 ⟨rfl, hb7⟩
      rw [HQ5.out, HS.out]
      have HQ7 : Hid (Ucd.canon (Ucd.side (Ucd.canon r)).2 = Ucd.canon (Ucd.mir r).1) := hide (by rw [HQ6.out, HS.out])
      have e2 := hb1.trans (hb2.mono hb1.size)
      have e3 := e2.trans (hb3.mono e2.size)
      have e4 := e3.trans (hb4.mono e3.size)
      have e5 := e4.trans (hb5.mono e4.size)
      have e6 := e5.trans (hb6.mono e5.size)
      have HE := hide (e6.trans (hb7.mono e6.size))
      clear e2 e3 e4 e5 e6 hb1 hb2 hb3 hb4 hb5 hb6 hb7 HQ2 HQ3 HQ5 HQ6
      rcases q1 with hk1 | hk1
      · rw [hk1]
        go_wp2_with fail
        refine (canon_any (Ucd.side (Ucd.canon r)).2 w7).mono ?_
        rintro e w8 ⟨rfl, rfl⟩
        rw [HQ7.out]
        go_wp2_with fail
        refine (canon_any (Ucd.mir r).1 w7).mono ?_
        rintro e w8 ⟨rfl, rfl⟩
        go_wp2
        go_ret
        exact ⟨rfl, HE.out⟩
      · rw [hk1]
        go_wp2_with fail
        refine (canon_any (Ucd.side (Ucd.canon r)).2 w7).mono ?_
        rintro e w8 ⟨rfl, rfl⟩
        rw [HQ7.out]
        go_wp2_with fail
        refine (canon_any (Ucd.mir r).1 w7).mono ?_
        rintro e w8 ⟨rfl, rfl⟩
        go_wp2
        go_ret
        exact ⟨rfl, HE.out⟩
end Go.Proofs.YtpndmjenpmefmaaDoor
