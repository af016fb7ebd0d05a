/- OrderRuns: the runs are the document's. -/
import Derived.Test.YtanoifkegfalgaaRr13
namespace Go.Proofs.Ytanoifkegfalgaa
open Go.RowKit
set_option linter.unusedVariables false
set_option maxHeartbeats 1000000
set_option maxRecDepth 100000
theorem OrderRuns_walk (w : World) (a0 : Option Addr) (n0 cap0 : Nat) (l : List Int) (h0 : Row .i64 w a0 n0 cap0 l) (hf0 : ∀ x ∈ l, (Lit.int .i64 x).wf = true) (hs0 : n0 * 8 ≤ 140737488351232) :
    Calls Try.prog 6 #[.slice a0 n0 cap0] w fun e w' => e = .returned (.bool true) ∧ Below w.heap.size w w' := by
  have HW := hide (fun w' => works13_any w')
  obtain ⟨ii, hii, hy0, hy1, hy2⟩ := info_parts infoInt
  have HII : Hid (Try.prog.info? 3 = some ii) := hii
  have HY0 := hide hy0
  have HY1 := hide hy1
  have HY2 := hide hy2
  by_cases hbig : 70 < n0
  · have hb1 : (70 : Int) < (n0 : Int) := by omega
    clear h0 hf0
    go_enter Try.func6, Try.ntmps6
    go_wp2_with fail
    refine (HW.out _).mono ?_
    rintro e w1 ⟨rfl, hk1⟩
    have K1 := hide hk1
    clear hk1
    go_wp2
    go_ret
    exact ⟨rfl, K1.out⟩
  · have hb1 : ¬ (70 : Int) < (n0 : Int) := by omega
    obtain ⟨_, R, E, _, hA, _⟩ := RA_some l
    have HO := hide (fun (ao : Option Addr) (cap : Nat) (w' : World) (h : Row .i64 w' ao n0 cap l) => runs_any ao n0 cap l w' h (by omega) R E hA)
    have HR := hide (fun (w' : World) (hk : KO w w') => rruns_any a0 n0 cap0 l w' (h0.below hk) (by omega) R E hA)
    have K0 := hide (KO.alloc (KO.refl w) (.cells #[] 3))
    have R0 := hide (h0.below (KO.alloc (KO.refl w) (.cells #[] 3)))
    have OE := hide (owns_empty w 3 w.heap.size rfl)
    clear h0 hf0 hA hii hy0 hy1 hy2
    go_enter Try.func6, Try.ntmps6
    go_wp2_with (at_builtin; refine wpList_append_row _ rfl (.tmp 13) (.tmp 14) 22 rfl w.heap.size 3 ii (.int .i64 0) 8 Try.underlying22 HII.out HY0.out HY1.out HY2.out rfl _ 0 [] rfl OE.out .i64 _ n0 cap0 l rfl R0.out (by omega) (by omega) (by simp) ?_)
    intro v2 w2 ho2 hb2
    obtain ⟨ao, co, ev, hr2⟩ := row_of_owns ho2
    subst ev
    have K2 := hide (show KO w w2 from Below.trans K0.out hb2)
    have HO2 := hide (HO.out ao co w2 hr2)
    clear ho2 hb2 hr2 HO
    go_wp2_with fail
    refine HO2.out.mono ?_
    rintro e w3 ⟨a3, c3, rfl, hr3, hk3⟩
    have K3 := hide (KO.on K2.out hk3)
    have R3 := hide hr3
    have HR3 := hide (HR.out w3 (KO.on K2.out hk3))
    clear hr3 hk3 HO2 HR
    go_wp2_with fail
    refine HR3.out.mono ?_
    rintro e w4 ⟨a4, c4, rfl, hr4, hk4⟩
    have K4 := hide (KO.on K3.out hk4)
    have R3b := hide (R3.out.below hk4)
    have R4 := hide hr4
    have hEE : (E != E) = false := by simp
    have hcap := R3.out.le
    have hcm := R3.out.max
    unfold maxLen at hcm
    clear hr4 hk4 HR3 R3
    obtain ⟨N, hN⟩ : ∃ N, R.length = N := ⟨_, rfl⟩
    rw [hN] at hcap ⊢
    have HN := hide hN
    have hNN : ((N : Int) != (N : Int)) = false := by simp
    clear hN
    go_wp2
    go_loopw [7, 36] (fun s7 s36 W => ∃ i : Nat, s36 = .int .i64 (i : Int) ∧ i ≤ N ∧ Hid (KO w4 W)) (fun _ s36 _ => N - (intOf s36).toNat)
    case atStart => exact ⟨0, rfl, Nat.zero_le _, hide (KO.refl w4)⟩
    case round =>
      obtain ⟨i, rfl, hi, hkw⟩ := hrel
      by_cases hlt : i < N
      · have hin : (i : Int) < (N : Int) := by omega
        obtain ⟨b3, o3, x3, y3, e3, hb3, c3i, r3⟩ := (R3b.out.below hkw.out).at' i (by rw [HN.out]; exact hlt)
        obtain ⟨b4, o4, x4, y4, e4, hb4, c4i, r4⟩ := (R4.out.below hkw.out).at' i (by rw [HN.out]; exact hlt)
        subst e3 e4
        have HI := hide (fun q => ints_yes x3 x4 _ y3 y4 (R.getD i []) (wr.drewN q) (r3.below (below_drewN wr q)) (r4.below (below_drewN wr q)))
        clear r3 r4
        generalize (R.getD i []).length = m at *
        go_wp2_with fail
        go_quiet (first | (go_at_call 12; exact Calls.quiet_of (HI.out _)))
        go_wp2
        go_roundw
        case rel => exact ⟨i + 1, by go_num, by omega, hide (KO.on hkw.out (below_of_drewN ⟨_, rfl⟩))⟩
        case measure => simp [intOf]; omega
      · obtain rfl : N = i := by omega
        have hne : ¬ (N : Int) < (N : Int) := by omega
        go_wp2_with fail
        refine (HW.out _).mono ?_
        rintro e w7 ⟨rfl, hk7⟩
        have K7 := hide hk7
        clear hk7
        go_wp2
        go_ret
        exact ⟨rfl, KO.on K4.out (KO.on hkw.out K7.out)⟩
end Go.Proofs.Ytanoifkegfalgaa
