import Derived.Test.YtfadjgaledddjaaGreatDoorZp
import Derived.Test.YtfadjgaledddjaaGreatDoorZq
/- LevelsClasses. -/
namespace Go.Proofs.YtfadjgaledddjaaGreatDoor
open Go.RowKit
set_option linter.unusedVariables false
set_option maxHeartbeats 1000000
set_option maxRecDepth 100000
theorem LevelsClasses_walk (w : World) (hm : Marks w) (a0 : Option Addr) (n0 c0 : Nat) (l : List Int) (h0 : Row .i32 w a0 n0 c0 l) (f0 : ∀ x ∈ l, (Lit.int .i32 x).wf = true) (b0 : n0 * 4 ≤ 140737488351232) :
    Calls Tryz.prog 4 #[.slice a0 n0 c0] w fun e w' => e = .returned (.bool true) ∧ Below w.heap.size w w' := by
  by_cases hbig : 500 < n0
  · have hbig' : (500 : Int) < (n0 : Int) := by omega
    have HW := hide (works12_any w hm)
    clear hm h0 f0
    go_enter Tryz.func4, Tryz.ntmps4
    go_wp2_with fail
    refine HW.out.mono ?_
    rintro e w1 ⟨rfl, hk⟩
    go_wp2
    go_ret
    exact ⟨rfl, hk⟩
  · have hbig' : ¬ (500 : Int) < (n0 : Int) := by omega
    have HA := hide (classes_any a0 n0 c0 l w h0 f0 (by omega))
    have HB := hide (fun W (hk : KO w W) => rclasses_any a0 n0 c0 l W (h0.below hk) f0 (by omega))
    have HW := hide (fun W (hk : KO w W) => works12_any W (hm.below hk))
    clear hm h0 f0
    go_enter Tryz.func4, Tryz.ntmps4
    go_wp2_with fail
    refine HA.out.mono ?_
    rintro e w1 ⟨rfl, hn1⟩
    have HR1 := hide hn1.row
    have HK1 := hide (show KO w w1 from hn1.bel)
    have HB1 := hide (HB.out w1 hn1.bel)
    clear hn1 HA HB
    go_wp2_with fail
    refine HB1.out.mono ?_
    rintro e w2 ⟨a2, c2, rfl, hr2, hk2⟩
    have HI := hide (ints_yes (some ⟨w.heap.size, 0, none⟩) a2 n0 n0 c2 (Rn.cl l) w2 (HR1.out.below hk2) hr2)
    have HK2 := hide (KO.on HK1.out hk2)
    clear hr2 hk2 HB1 HR1 HK1
    go_wp2_with fail
    refine HI.out.mono ?_
    rintro e w3 ⟨rfl, hd3⟩
    have HK3 := hide (KO.on HK2.out (below_of_drewN hd3))
    have HW3 := hide (HW.out w3 HK3.out)
    clear hd3 HI HW HK2
    go_wp2_with fail
    refine HW3.out.mono ?_
    rintro e w4 ⟨rfl, hk4⟩
    have HK4 := hide (KO.on HK3.out hk4)
    clear hk4 HW3
    go_wp2
    go_ret
    exact ⟨rfl, HK4.out⟩
end Go.Proofs.YtfadjgaledddjaaGreatDoor
