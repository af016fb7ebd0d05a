/- NeutralResolves, NeutralLevels: Resolve and Levels are as the document has them. -/
import Derived.Test.YtbpjacalnipkgaaRg11
namespace Go.Proofs.Ytbpjacalnipkgaa
open Go.RowKit
set_option linter.unusedVariables false
set_option maxHeartbeats 1000000
set_option maxRecDepth 100000
theorem NeutralResolves_walk (w : World) (a0 : Option Addr) (n0 cap0 : Nat) (t : List Int) (h0 : Row .i64 w a0 n0 cap0 t) (hf0 : ∀ x ∈ t, (Lit.int .i64 x).wf = true) (hs0 : n0 * 8 ≤ 140737488351232) (lv so eo : Int) (hwl : (Lit.int .i64 lv).wf = true) (hws : (Lit.int .i64 so).wf = true) (hwe : (Lit.int .i64 eo).wf = true) :
    Calls Try.prog 3 #[.slice a0 n0 cap0, .agg #[.int .i64 lv, .int .i64 so, .int .i64 eo]] w fun e w' => e = .returned (.bool true) ∧ Below w.heap.size w w' := by
  have HW := hide (fun w' => works11_any w')
  have HX := hide (show KO w (w.alloc (.cells #[.int .i64 lv, .int .i64 so, .int .i64 eo] 24)) from KO.alloc (KO.refl _) _)
  by_cases hbig : n0 ≤ 500
  · have e0 : ¬ ((500 : Int) < (n0 : Int)) := by omega
    obtain ⟨ii, hii, hy0, hy1, hy2⟩ := info_parts infoInt
    have HII : Hid (Try.prog.info? 3 = some ii) := hii
    have HY0 := hide hy0
    have HY1 := hide hy1
    have HY2 := hide hy2
    have H0 := hide h0
    obtain ⟨L, E, hA⟩ := Ne.AR_some t lv so eo
    have HS := hide (fun (ao : Option Addr) (cap : Nat) (w' : World) (hr : Row .i64 w' ao n0 cap t) => resolve_any ao n0 cap lv so eo t w' hr hf0 hs0 L E hA)
    have HR := hide (fun (w' : World) (hk : KO w w') => rresolve_any a0 n0 cap0 lv so eo t w' (h0.below hk) hbig L E hA)
    obtain ⟨X, hX⟩ : ∃ X, w.alloc (.cells #[.int .i64 lv, .int .i64 so, .int .i64 eo] 24) = X := ⟨_, rfl⟩
    have hblkX : X.heap[w.heap.size]? = some (.cells #[.int .i64 lv, .int .i64 so, .int .i64 eo] 24 (0, 0)) := by rw [← hX]; exact World.alloc_heap_new w _
    have HBX := hide hblkX
    rw [hX] at HX
    have hsX : X.heap.size = w.heap.size + 1 := by rw [← hX]; simp
    have HKA := hide (show KO X (X.alloc (.cells #[] 3)) from KO.alloc (KO.refl _) _)
    clear h0 hf0 hs0 hwl hws hwe hii hy0 hy1 hy2 hA hblkX
    go_enter Try.func3, Try.ntmps3
    go_wp2_with (at_builtin; refine wpList_append_row _ rfl (.tmp 14) (.tmp 15) 22 rfl X.heap.size 3 ii (.int .i64 0) 8 Try.underlying22 HII.out HY0.out HY1.out HY2.out rfl _ 0 [] rfl (by rw [hsX]; exact owns_empty X 3 (w.heap.size + 1) hsX) .i64 a0 n0 cap0 t rfl (H0.out.below (KO.on HX.out HKA.out)) (by omega) (by omega) (by simp) ?_; intro v1 w1 hown1 hb1; rw [List.nil_append, Nat.zero_add] at hown1; obtain ⟨a1, c1, rfl, hr1⟩ := row_of_owns hown1; have KX1 := hide (show KO X w1 from Below.trans HKA.out hb1); have hblk : w1.heap[w.heap.size]? = some (.cells #[.int .i64 lv, .int .i64 so, .int .i64 eo] 24 (0, 0)) := (Below.block KX1.out _ (by omega)).trans HBX.out; have x0 : w1.cell? ⟨w.heap.size, 0, none⟩ = some (.int .i64 lv) := (by simp [World.cell?, hblk]); have x1 : w1.cell? ⟨w.heap.size, 1, none⟩ = some (.int .i64 so) := (by simp [World.cell?, hblk]); have x2 : w1.cell? ⟨w.heap.size, 2, none⟩ = some (.int .i64 eo) := (by simp [World.cell?, hblk]); have HB1 := hide hblk; clear hblk)
    have K1 := hide (KO.on HX.out KX1.out)
    have R1 := hide hr1
    have HS1 := hide (HS.out a1 c1 w1 hr1)
    clear hown1 hb1 hr1 HKA HS HBX hX hsX
    go_wp2_with fail
    refine HS1.out.mono ?_
    rintro e w2 ⟨a2, c2, rfl, hr2, hk2⟩
    have K2 := hide (KO.on K1.out hk2)
    have N2 := hide hr2
    have KK2 := hide hk2
    have HR2 := hide (HR.out w2 K2.out)
    have hblk : w2.heap[w.heap.size]? = some (.cells #[.int .i64 lv, .int .i64 so, .int .i64 eo] 24 (0, 0)) := (Below.block hk2 _ (Array.getElem?_eq_some_iff.1 HB1.out).1).trans HB1.out
    have y0 : w2.cell? ⟨w.heap.size, 0, none⟩ = some (.int .i64 lv) := by simp [World.cell?, hblk]
    have y1 : w2.cell? ⟨w.heap.size, 1, none⟩ = some (.int .i64 so) := by simp [World.cell?, hblk]
    have y2 : w2.cell? ⟨w.heap.size, 2, none⟩ = some (.int .i64 eo) := by simp [World.cell?, hblk]
    clear hr2 hk2 HS1 HR hblk x0 x1 x2 HB1
    go_wp2_with fail
    refine HR2.out.mono ?_
    rintro e w3 ⟨a3, c3, rfl, hr3, hk3⟩
    have K3 := hide (KO.on K2.out hk3)
    have HI := hide (ints_yes a2 a3 L.length c2 c3 L w3 (N2.out.below hk3) hr3)
    have HB3 := hide hk3
    clear hr3 hk3 HR2 y0 y1 y2
    go_wp2_with fail
    refine HI.out.mono ?_
    rintro e w4 ⟨rfl, hd4⟩
    have K4 := hide (KO.on K3.out (below_of_drewN hd4))
    have HJ := hide (ints_yes a1 a0 n0 c1 cap0 t w4 (R1.out.below (KO.on (KO.on KK2.out HB3.out) (below_of_drewN hd4))) (H0.out.below K4.out))
    clear hd4 HI
    generalize L.length = l at *
    go_wp2_with fail
    refine HJ.out.mono ?_
    rintro e w5 ⟨rfl, hd5⟩
    have K5 := hide (KO.on K4.out (below_of_drewN hd5))
    clear hd5 HJ
    go_wp2_with fail
    refine (HW.out w5).mono ?_
    rintro e w6 ⟨rfl, hk6⟩
    have K6 := hide (KO.on K5.out hk6)
    clear hk6
    go_wp2
    go_ret
    exact ⟨rfl, K6.out⟩
  · have e0 : (500 : Int) < (n0 : Int) := by omega
    clear h0 hf0 hs0 hws hwl hwe hbig
    go_enter Try.func3, Try.ntmps3
    go_wp2_with fail
    refine (HW.out _).mono ?_
    rintro e w6 ⟨rfl, hk6⟩
    have K6 := hide (KO.on HX.out hk6)
    clear hk6
    go_wp2
    go_ret
    exact ⟨rfl, K6.out⟩
theorem NeutralLevels_walk (w : World) (a0 : Option Addr) (n0 cap0 : Nat) (t : List Int) (h0 : Row .i64 w a0 n0 cap0 t) (hf0 : ∀ x ∈ t, (Lit.int .i64 x).wf = true) (hs0 : n0 * 8 ≤ 140737488351232) (lv : Int) (hwl : (Lit.int .i64 lv).wf = true) :
    Calls Try.prog 4 #[.slice a0 n0 cap0, .int .i64 lv] w fun e w' => e = .returned (.bool true) ∧ Below w.heap.size w w' := by
  have HW := hide (fun w' => works11_any w')
  obtain ⟨ii, hii, hy0, hy1, hy2⟩ := info_parts infoInt
  have HII : Hid (Try.prog.info? 3 = some ii) := hii
  have HY0 := hide hy0
  have HY1 := hide hy1
  have HY2 := hide hy2
  have H0 := hide h0
  obtain ⟨L, E, hA⟩ := Ne.AL_some t lv
  have HS := hide (fun (ao : Option Addr) (cap : Nat) (w' : World) (hr : Row .i64 w' ao n0 cap t) => levels_any ao n0 cap lv t w' hr hf0 hs0 L E hA)
  have HR := hide (fun (w' : World) (hk : KO w w') => rlevels_any a0 n0 cap0 lv t w' (h0.below hk) hs0 L E hA)
  have HKA := hide (show KO w (w.alloc (.cells #[] 3)) from KO.alloc (KO.refl _) _)
  clear h0 hf0 hwl hii hy0 hy1 hy2 hA
  go_enter Try.func4, Try.ntmps4
  go_wp2_with (at_builtin; refine wpList_append_row _ rfl (.tmp 10) (.tmp 11) 22 rfl w.heap.size 3 ii (.int .i64 0) 8 Try.underlying22 HII.out HY0.out HY1.out HY2.out rfl _ 0 [] rfl (owns_empty w 3 w.heap.size rfl) .i64 a0 n0 cap0 t rfl (H0.out.below HKA.out) (by omega) (by omega) (by simp) ?_; intro v1 w1 hown1 hb1; rw [List.nil_append, Nat.zero_add] at hown1; obtain ⟨a1, c1, rfl, hr1⟩ := row_of_owns hown1)
  have K1 := hide (show KO w w1 from Below.trans HKA.out hb1)
  have R1 := hide hr1
  have HS1 := hide (HS.out a1 c1 w1 hr1)
  clear hown1 hb1 hr1 HKA HS
  go_wp2_with fail
  refine HS1.out.mono ?_
  rintro e w2 ⟨a2, c2, rfl, hr2, hk2⟩
  have K2 := hide (KO.on K1.out hk2)
  have N2 := hide hr2
  have KK2 := hide hk2
  have HR2 := hide (HR.out w2 K2.out)
  clear hr2 hk2 HS1 HR
  go_wp2_with fail
  refine HR2.out.mono ?_
  rintro e w3 ⟨a3, c3, rfl, hr3, hk3⟩
  have K3 := hide (KO.on K2.out hk3)
  have HI := hide (ints_yes a2 a3 L.length c2 c3 L w3 (N2.out.below hk3) hr3)
  have HB3 := hide hk3
  clear hr3 hk3 HR2
  go_wp2_with fail
  refine HI.out.mono ?_
  rintro e w4 ⟨rfl, hd4⟩
  have K4 := hide (KO.on K3.out (below_of_drewN hd4))
  have HJ := hide (ints_yes a1 a0 n0 c1 cap0 t w4 (R1.out.below (KO.on (KO.on KK2.out HB3.out) (below_of_drewN hd4))) (H0.out.below K4.out))
  clear hd4 HI
  generalize L.length = l at *
  go_wp2_with fail
  refine HJ.out.mono ?_
  rintro e w5 ⟨rfl, hd5⟩
  have K5 := hide (KO.on K4.out (below_of_drewN hd5))
  clear hd5 HJ
  go_wp2_with fail
  refine (HW.out w5).mono ?_
  rintro e w6 ⟨rfl, hk6⟩
  have K6 := hide (KO.on K5.out hk6)
  clear hk6
  go_wp2
  go_ret
  exact ⟨rfl, K6.out⟩
end Go.Proofs.Ytbpjacalnipkgaa
