/- IsolateMatches: which PDI belongs to which initiator, and how deep places lie, is as the document has it. -/
import Derived.Test.YtfdfoojagngnnaaRefd6
namespace Go.Proofs.Ytfdfoojagngnnaa
open Go.RowKit
set_option linter.unusedVariables false
set_option maxHeartbeats 1000000
set_option maxRecDepth 100000
theorem IsolateMatches_walk (w : World) (a0 : Option Addr) (n0 cap0 : Nat) (c : List Int) (h0 : Row .i64 w a0 n0 cap0 c) (hf0 : ∀ x ∈ c, (Lit.int .i64 x).wf = true) (hs0 : n0 * 8 ≤ 140737488351232) :
    Calls Try.prog 3 #[.slice a0 n0 cap0] w fun e w' => e = .returned (.bool true) ∧ Below w.heap.size w w' := by
  by_cases hbig : n0 ≤ 200
  · have e0 : ¬ ((200 : Int) < (n0 : Int)) := by omega
    obtain ⟨ii, hii, hy0, hy1, hy2⟩ := info_parts infoInt
    have HII : Hid (Try.prog.info? 3 = some ii) := hii
    have HY0 := hide hy0
    have HY1 := hide hy1
    have HY2 := hide hy2
    have H0 := hide h0
    have hka : KO w (w.alloc (.cells #[] 3)) := KO.alloc (KO.refl _) _
    have HKA := hide hka
    clear h0 hf0 hs0 hii hy0 hy1 hy2 hka
    go_enter Try.func3, Try.ntmps3
    go_wp2_with (at_builtin; refine wpList_append_row _ rfl (.tmp 8) (.tmp 9) 22 rfl w.heap.size 3 ii (.int .i64 0) 8 Try.underlying22 HII.out HY0.out HY1.out HY2.out rfl _ 0 [] rfl (owns_empty w 3 w.heap.size rfl) .i64 a0 n0 cap0 c rfl (H0.out.below HKA.out) (by omega) (by omega) (by simp) ?_; intro v2 w2 hown2 hb2)
    rw [List.nil_append, Nat.zero_add] at hown2
    obtain ⟨a2, c2, rfl, hr2⟩ := row_of_owns hown2
    have k2 : KO w w2 := Below.trans HKA.out hb2
    have HR2 := hide hr2
    clear hown2 hb2 hr2
    have HM := hide (match_any a2 n0 c2 c w2 HR2.out (by omega))
    go_wp2_with fail
    refine HM.out.mono ?_
    rintro e w3 ⟨rfl, ho3, hb3⟩
    have k3 : KO w2 w3 := hb3
    have HR3 := hide (row_owned ho3)
    have HRM := hide (rmatch_any a0 n0 cap0 c w3 (H0.out.below (KO.on k2 k3)) hbig)
    clear ho3 hb3 HM
    go_wp2_with fail
    refine HRM.out.mono ?_
    rintro e w4 ⟨a4, c4, rfl, hr4, hb4⟩
    have k4 : KO w2 w4 := KO.on k3 hb4
    have HI := hide (ints_yes (some ⟨w2.heap.size, 0, none⟩) a4 n0 n0 c4 (Iso.MT c) w4 (HR3.out.below hb4) hr4)
    clear hr4 hb4 HRM HR3
    go_wp2_with fail
    refine HI.out.mono ?_
    rintro e w5 ⟨rfl, hd5⟩
    have k5 : KO w2 w5 := KO.on k4 (below_of_drewN hd5)
    have HD := hide (depth_any a2 n0 c2 c w5 (HR2.out.below k5) (by omega))
    clear hd5 HI
    go_wp2_with fail
    refine HD.out.mono ?_
    rintro e w6 ⟨rfl, ho6, hb6⟩
    have k6 : KO w2 w6 := KO.on k5 hb6
    have HR6 := hide (row_owned ho6)
    have HRD := hide (rdepth_any a0 n0 cap0 c w6 (H0.out.below (KO.on k2 k6)) hbig)
    clear ho6 hb6 HD
    go_wp2_with fail
    refine HRD.out.mono ?_
    rintro e w7 ⟨a7, c7, rfl, hr7, hb7⟩
    have k7 : KO w2 w7 := KO.on k6 hb7
    have HI := hide (ints_yes (some ⟨w5.heap.size, 0, none⟩) a7 n0 n0 c7 (Iso.DP c) w7 (HR6.out.below hb7) hr7)
    clear hr7 hb7 HRD HR6
    go_wp2_with fail
    refine HI.out.mono ?_
    rintro e w8 ⟨rfl, hd8⟩
    have k8 : KO w2 w8 := KO.on k7 (below_of_drewN hd8)
    have HJ := hide (ints_yes a2 a0 n0 c2 cap0 c w8 (HR2.out.below k8) (H0.out.below (KO.on k2 k8)))
    clear hd8 HI
    go_wp2_with fail
    refine HJ.out.mono ?_
    rintro e w9 ⟨rfl, hd9⟩
    have k9 : KO w2 w9 := KO.on k8 (below_of_drewN hd9)
    have HW := hide (works_any w9)
    clear hd9 HJ
    go_wp2_with fail
    refine HW.out.mono ?_
    rintro e w10 ⟨rfl, hb10⟩
    have k10 : KO w w10 := KO.on k2 (KO.on k9 hb10)
    clear hb10 HW
    go_wp2_with fail
    go_ret
    exact ⟨rfl, k10⟩
  · have e0 : (200 : Int) < (n0 : Int) := by omega
    have HW := hide (works_any w)
    clear h0 hf0 hs0 hbig
    go_enter Try.func3, Try.ntmps3
    go_wp2_with (go_at_call 9; refine HW.out.mono ?_; rintro e w1 ⟨rfl, hb1⟩)
    go_ret
    exact ⟨rfl, hb1⟩
end Go.Proofs.Ytfdfoojagngnnaa
