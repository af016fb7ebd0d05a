/- WeakSteps, WeakResolves: Step and Resolve are as the document has them. -/
import Derived.Test.YtkajiagflcflpaaWt
namespace Go.Proofs.Ytkajiagflcflpaa
open Go.RowKit
set_option linter.unusedVariables false
set_option maxHeartbeats 1000000
set_option maxRecDepth 100000
theorem WeakSteps_walk (w : World) (a0 : Option Addr) (n0 cap0 : Nat) (c : List Int) (h0 : Row .i64 w a0 n0 cap0 c) (hf0 : ∀ x ∈ c, (Lit.int .i64 x).wf = true) (hs0 : n0 * 8 ≤ 140737488351232) (s : Int) (hws : (Lit.int .i64 s).wf = true) (r : Int) (hwr : (Lit.int .i64 r).wf = true) :
    Calls Try.prog 3 #[.slice a0 n0 cap0, .int .i64 s, .int .i64 r] w fun e w' => e = .returned (.bool true) ∧ Below w.heap.size w w' := by
  have HW := hide (fun w' => works9_any w')
  by_cases hbig : n0 ≤ 400
  · have e0 : ¬ ((400 : Int) < (n0 : Int)) := by omega
    obtain ⟨ii, hii, hy0, hy1, hy2⟩ := info_parts infoInt
    have HII : Hid (Try.prog.info? 3 = some ii) := hii
    have HY0 := hide hy0
    have HY1 := hide hy1
    have HY2 := hide hy2
    have H0 := hide h0
    obtain ⟨L, E, hA⟩ := A9_some s r c
    have HS := hide (fun (ao : Option Addr) (cap : Nat) (w' : World) (hr : Row .i64 w' ao n0 cap c) => step_any ao n0 cap s r c L E w' hr hs0 hA)
    have HR := hide (fun (w' : World) (hk : KO w w') => rstep_any a0 n0 cap0 s r c L E w' (h0.below hk) hbig hA)
    clear h0 hf0 hs0 hws hwr hii hy0 hy1 hy2 hA
    have HKA := hide (show KO w (w.alloc (.cells #[] 3)) from KO.alloc (KO.refl _) _)
    go_enter Try.func3, Try.ntmps3
    go_wp2_with (at_builtin; refine wpList_append_row _ rfl (.tmp 16) (.tmp 17) 22 rfl w.heap.size 3 ii (.int .i64 0) 8 Try.underlying22 HII.out HY0.out HY1.out HY2.out rfl _ 0 [] rfl (owns_empty w 3 w.heap.size rfl) .i64 a0 n0 cap0 c rfl (H0.out.below HKA.out) (by omega) (by omega) (by simp) ?_; intro v1 w1 hown1 hb1; rw [List.nil_append, Nat.zero_add] at hown1; obtain ⟨a1, c1, rfl, hr1⟩ := row_of_owns hown1)
    have K1 := hide (show KO w w1 from Below.trans HKA.out hb1)
    have R1 := hide hr1
    have HS1 := hide (HS.out a1 c1 w1 hr1)
    clear hown1 hb1 hr1 HKA HS
    go_wp2_with fail
    refine HS1.out.mono ?_
    rintro e w2 ⟨a2, c2, rfl, hN2⟩
    have K2 := hide (KO.on K1.out hN2.bel)
    have N2 := hide hN2
    have HR2 := hide (HR.out w2 K2.out)
    clear hN2 HS1 HR
    go_wp2_with fail
    refine HR2.out.mono ?_
    rintro e w3 ⟨a3, c3, rfl, hN3⟩
    have K3 := hide (KO.on K2.out hN3.bel)
    have HI := hide (ints_yes a2 a3 L.length c2 c3 L w3 (N2.out.row.below hN3.bel) hN3.row)
    have HB3 := hide hN3.bel
    clear hN3 HR2
    go_wp2_with fail
    refine HI.out.mono ?_
    rintro e w4 ⟨rfl, hd4⟩
    have K4 := hide (KO.on K3.out (below_of_drewN hd4))
    have HJ := hide (ints_yes a1 a0 n0 c1 cap0 c w4 (R1.out.below (KO.on (KO.on N2.out.bel HB3.out) (below_of_drewN hd4))) (H0.out.below K4.out))
    clear hd4 HI
    generalize L.length = l at *
    go_wp2_with fail
    refine HJ.out.mono ?_
    rintro e w5 ⟨rfl, hd5⟩
    have K5 := hide (KO.on K4.out (below_of_drewN hd5))
    clear hd5 HJ
    go_wp2_with fail
    refine (HW.out w5).mono ?_
    rintro e w6 ⟨rfl, hk6⟩
    have K6 := hide (KO.on K5.out hk6)
    clear hk6
    go_wp2
    go_ret
    exact ⟨rfl, K6.out⟩
  · have e0 : (400 : Int) < (n0 : Int) := by omega
    clear h0 hf0 hs0 hws hwr hbig
    go_enter Try.func3, Try.ntmps3
    go_wp2_with fail
    refine (HW.out w).mono ?_
    rintro e w6 ⟨rfl, hk6⟩
    have K6 := hide hk6
    clear hk6
    go_wp2
    go_ret
    exact ⟨rfl, K6.out⟩
theorem WeakResolves_walk (w : World) (a0 : Option Addr) (n0 cap0 : Nat) (c : List Int) (h0 : Row .i64 w a0 n0 cap0 c) (hf0 : ∀ x ∈ c, (Lit.int .i64 x).wf = true) (hs0 : n0 * 8 ≤ 140737488351232) (s : Int) (hws : (Lit.int .i64 s).wf = true) :
    Calls Try.prog 4 #[.slice a0 n0 cap0, .int .i64 s] w fun e w' => e = .returned (.bool true) ∧ Below w.heap.size w w' := by
  have HW := hide (fun w' => works9_any w')
  by_cases hbig : n0 ≤ 400
  · have e0 : ¬ ((400 : Int) < (n0 : Int)) := by omega
    obtain ⟨ii, hii, hy0, hy1, hy2⟩ := info_parts infoInt
    have HII : Hid (Try.prog.info? 3 = some ii) := hii
    have HY0 := hide hy0
    have HY1 := hide hy1
    have HY2 := hide hy2
    have H0 := hide h0
    obtain ⟨L, E, hA⟩ := B9_some s c
    have HS := hide (fun (ao : Option Addr) (cap : Nat) (w' : World) (hr : Row .i64 w' ao n0 cap c) => resolve_any ao n0 cap s c L E w' hr hs0 hA)
    have HR := hide (fun (w' : World) (hk : KO w w') => rresolve_any a0 n0 cap0 s c L E w' (h0.below hk) hbig hA)
    clear h0 hf0 hs0 hws hii hy0 hy1 hy2 hA
    have HKA := hide (show KO w (w.alloc (.cells #[] 3)) from KO.alloc (KO.refl _) _)
    go_enter Try.func4, Try.ntmps4
    go_wp2_with (at_builtin; refine wpList_append_row _ rfl (.tmp 14) (.tmp 15) 22 rfl w.heap.size 3 ii (.int .i64 0) 8 Try.underlying22 HII.out HY0.out HY1.out HY2.out rfl _ 0 [] rfl (owns_empty w 3 w.heap.size rfl) .i64 a0 n0 cap0 c rfl (H0.out.below HKA.out) (by omega) (by omega) (by simp) ?_; intro v1 w1 hown1 hb1; rw [List.nil_append, Nat.zero_add] at hown1; obtain ⟨a1, c1, rfl, hr1⟩ := row_of_owns hown1)
    have K1 := hide (show KO w w1 from Below.trans HKA.out hb1)
    have R1 := hide hr1
    have HS1 := hide (HS.out a1 c1 w1 hr1)
    clear hown1 hb1 hr1 HKA HS
    go_wp2_with fail
    refine HS1.out.mono ?_
    rintro e w2 ⟨a2, c2, rfl, hN2⟩
    have K2 := hide (KO.on K1.out hN2.bel)
    have N2 := hide hN2
    have HR2 := hide (HR.out w2 K2.out)
    clear hN2 HS1 HR
    go_wp2_with fail
    refine HR2.out.mono ?_
    rintro e w3 ⟨a3, c3, rfl, hN3⟩
    have K3 := hide (KO.on K2.out hN3.bel)
    have HI := hide (ints_yes a2 a3 L.length c2 c3 L w3 (N2.out.row.below hN3.bel) hN3.row)
    have HB3 := hide hN3.bel
    clear hN3 HR2
    go_wp2_with fail
    refine HI.out.mono ?_
    rintro e w4 ⟨rfl, hd4⟩
    have K4 := hide (KO.on K3.out (below_of_drewN hd4))
    have HJ := hide (ints_yes a1 a0 n0 c1 cap0 c w4 (R1.out.below (KO.on (KO.on N2.out.bel HB3.out) (below_of_drewN hd4))) (H0.out.below K4.out))
    clear hd4 HI
    generalize L.length = l at *
    go_wp2_with fail
    refine HJ.out.mono ?_
    rintro e w5 ⟨rfl, hd5⟩
    have K5 := hide (KO.on K4.out (below_of_drewN hd5))
    clear hd5 HJ
    go_wp2_with fail
    refine (HW.out w5).mono ?_
    rintro e w6 ⟨rfl, hk6⟩
    have K6 := hide (KO.on K5.out hk6)
    clear hk6
    go_wp2
    go_ret
    exact ⟨rfl, K6.out⟩
  · have e0 : (400 : Int) < (n0 : Int) := by omega
    clear h0 hf0 hs0 hws hbig
    go_enter Try.func4, Try.ntmps4
    go_wp2_with fail
    refine (HW.out w).mono ?_
    rintro e w6 ⟨rfl, hk6⟩
    have K6 := hide hk6
    clear hk6
    go_wp2
    go_ret
    exact ⟨rfl, K6.out⟩
end Go.Proofs.Ytkajiagflcflpaa
