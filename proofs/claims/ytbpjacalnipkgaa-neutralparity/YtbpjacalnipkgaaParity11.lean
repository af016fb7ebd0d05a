/- NeutralParity: implicit levels are the level or up to two more, odd just of R, a number's above the level. -/
import Derived.Test.YtbpjacalnipkgaaNl
namespace Go.Proofs.Ytbpjacalnipkgaa
open Go.RowKit
set_option linter.unusedVariables false
set_option maxHeartbeats 1000000
set_option maxRecDepth 100000
theorem AL_ok {t : List Int} {lv : Int} {L : List Int} {E : Int} (h : Ne.AL t lv L E) : (E = 0 ∧ Ne.Lev lv ∧ Ne.Sided t ∧ L = Ne.LS t lv) ∨ ((E != 0) = true ∧ L = []) := by
  rcases h with ⟨_, rfl, rfl⟩ | ⟨_, _, rfl, rfl⟩ | ⟨h1, h2, rfl, rfl⟩
  · exact .inr ⟨rfl, rfl⟩
  · exact .inr ⟨rfl, rfl⟩
  · exact .inl ⟨rfl, h1, h2, rfl⟩
theorem NeutralParity_walk (w : World) (a0 : Option Addr) (n0 cap0 : Nat) (t : List Int) (h0 : Row .i64 w a0 n0 cap0 t) (hf0 : ∀ x ∈ t, (Lit.int .i64 x).wf = true) (hs0 : n0 * 8 ≤ 140737488351232) (lv : Int) (hwl : (Lit.int .i64 lv).wf = true) :
    Calls Try.prog 8 #[.slice a0 n0 cap0, .int .i64 lv] w fun e w' => e = .returned (.bool true) ∧ Below w.heap.size w w' := by
  have HW := hide (works11_any w)
  have hn2 : n0 ≤ 17592186044416 := by omega
  obtain ⟨L, E, hA⟩ := Ne.AL_some t lv
  have HR := hide (fun (w' : World) (hk : KO w w') => levels_any a0 n0 cap0 lv t w' (h0.below hk) hf0 hs0 L E hA)
  have H0 := hide h0
  have HLEN := hide h0.len
  have hc := AL_ok hA
  clear hA h0 hf0 hs0 hwl
  rcases hc with ⟨rfl, hg, hsd, rfl⟩ | ⟨hE, rfl⟩
  · have HLL := hide (show (Ne.LS t lv).length = n0 from by rw [Ne.LS_len, HLEN.out])
    rw [HLL.out] at HR
    have HG := hide hg
    have HSD := hide hsd
    clear hg hsd
    go_enter Try.func8, Try.ntmps8
    go_wp2_with fail
    refine HW.out.mono ?_
    rintro e w1 ⟨rfl, hk1⟩
    have HR1 := hide (HR.out w1 hk1)
    have K1 := hide hk1
    clear HR hk1 HW
    go_wp2_with fail
    refine HR1.out.mono ?_
    rintro e w2 ⟨a1, c1, rfl, hr, hk⟩
    have K2 := hide (KO.on K1.out hk)
    have N2 := hide hr
    have R2 := hide (H0.out.below K2.out)
    clear HR1 hr hk K1 H0
    go_wp2_with fail
    go_loopw [29] (fun v wr => ∃ k : Nat, v = .int .i64 (k : Int) ∧ k ≤ n0 ∧ w2 = wr) (fun v _ => n0 - (intOf v).toNat)
    case atStart => exact ⟨0, rfl, Nat.zero_le _, rfl⟩
    case round =>
      obtain ⟨k, rfl, hk, rfl⟩ := hrel
      by_cases hlt : k < n0
      · have hin : (k : Int) < (n0 : Int) := by omega
        obtain ⟨b, off, rfl, hbl, hc⟩ := R2.out.cells (by omega)
        have ck := hc k (by rw [HLEN.out]; exact hlt)
        obtain ⟨b1, off1, rfl, hbl1, hc1⟩ := N2.out.cells (by omega)
        have cx := hc1 k (by rw [HLL.out]; exact hlt)
        rw [Ne.LS_at _ _ (by rw [HLEN.out]; exact hlt)] at cx
        have hs := HSD.out k (by rw [HLEN.out]; exact hlt)
        have h2 := Ne.lv1_two (lv := lv) hs
        have hcs := Ne.sided_cases hs
        have HM := hide (meas_n0 n0 k hlt)
        have hl0 := HG.out.1
        have hl1 := HG.out.2
        have ew : wrap64 (lv + 2) = lv + 2 := w64_small (by omega) (by omega)
        clear hc hc1 hs HG HSD hbl hbl1
        generalize Ne.lv1 lv (t.getD k 0) = y at *
        generalize t.getD k 0 = x at *
        obtain ⟨g1, g2, g3, g4⟩ := h2
        have f1 : ¬ y < lv := by omega
        have f2 : ¬ lv + 2 < y := by omega
        have ht : y.tmod 2 = y % 2 := Int.tmod_eq_emod_of_nonneg (by omega)
        clear hl1
        rcases hcs with rfl | rfl | rfl | rfl
        · have e2 : y % 2 = 0 := by omega
          rw [e2] at ht
          clear e2 g1 g2 g3 g4 hl0
          go_wp2
          go_roundw
          case rel => exact ⟨k + 1, by go_num, by omega, trivial⟩
          case measure => exact HM.out
        · have e2 : y % 2 = 1 := by omega
          rw [e2] at ht
          clear e2 g1 g2 g3 g4 hl0
          go_wp2
          go_roundw
          case rel => exact ⟨k + 1, by go_num, by omega, trivial⟩
          case measure => exact HM.out
        · have e2 : y % 2 = 0 := by omega
          have e3 : (y == lv) = false := beq_false_of_ne (g4 (by omega))
          rw [e2] at ht
          clear e2 g1 g2 g3 g4 hl0
          go_wp2
          go_roundw
          case rel => exact ⟨k + 1, by go_num, by omega, trivial⟩
          case measure => exact HM.out
        · have e2 : y % 2 = 0 := by omega
          have e3 : (y == lv) = false := beq_false_of_ne (g4 (by omega))
          rw [e2] at ht
          clear e2 g1 g2 g3 g4 hl0
          go_wp2
          go_roundw
          case rel => exact ⟨k + 1, by go_num, by omega, trivial⟩
          case measure => exact HM.out
      · obtain rfl : k = n0 := by omega
        have hne : ¬ ((k : Int) < (k : Int)) := by omega
        clear hlt
        go_wp2
        go_ret
        exact ⟨rfl, K2.out⟩
  · go_enter Try.func8, Try.ntmps8
    go_wp2_with fail
    refine HW.out.mono ?_
    rintro e w1 ⟨rfl, hk1⟩
    have HR1 := hide (HR.out w1 hk1)
    have K1 := hide hk1
    clear HR hk1 HW
    go_wp2_with fail
    refine HR1.out.mono ?_
    rintro e w2 ⟨a1, c1, rfl, hr, hk⟩
    have K2 := hide (KO.on K1.out hk)
    clear HR1 hr hk K1 H0
    go_wp2
    go_ret
    exact ⟨rfl, K2.out⟩
end Go.Proofs.Ytbpjacalnipkgaa
