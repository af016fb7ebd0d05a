/- The walk of the law on the order of texts and of their bytes. -/
import Derived.Test.YtkcalmighgdojabWorks
import Derived.Test.YtkcalmighgdojabOrdm
import Derived.Deep.QuietTactic
import Derived.BigQuiet
namespace Go.Proofs.Ytkcalmighgdojab
open Go.RowKit
set_option linter.unusedVariables false
theorem encode_some (ao : Option Addr) (n cap : Nat) (l : List Int) (w : World) (h : Row .i32 w ao n cap l) (hsz : n * 4 ≤ 140737488351232) :
    Calls Try.prog 6 #[.slice ao n cap] w fun e w' => ∃ (a2 : Option Addr) (n2 c2 : Nat) (p q : Int), e = .returned (.tuple #[.slice a2 n2 c2, .int .i64 p, .int .i64 q]) ∧ Below w.heap.size w w' := by
  rcases Utf.bad_or l with hok | ⟨j, hj, hbad, hfirst⟩
  · refine (encode_ok _ _ _ _ _ h hsz hok).mono ?_
    rintro e w2 ⟨v2, rfl, ho2, hb2⟩
    obtain ⟨a2, c2, rfl, hr2⟩ := row_of_owns ho2
    exact ⟨_, _, _, _, _, rfl, hb2⟩
  · refine (encode_bad _ _ _ _ _ h hsz j (by have := h.len; omega) hbad hfirst).mono ?_
    rintro e w2 ⟨rfl, rfl⟩
    exact ⟨_, _, _, _, _, rfl, Below.refl _ _⟩
set_option maxHeartbeats 4000000 in
theorem UtfOrder_walk (w : World) (a0 : Option Addr) (n0 cap0 : Nat) (l : List Int) (h0 : Row .i32 w a0 n0 cap0 l) (hf0 : ∀ x ∈ l, (Lit.int .i32 x).wf = true) (hs0 : n0 * 4 ≤ 140737488351232)
    (a1 : Option Addr) (n1 cap1 : Nat) (k : List Int) (h1 : Row .i32 w a1 n1 cap1 k) (hf1 : ∀ x ∈ k, (Lit.int .i32 x).wf = true) (hs1 : n1 * 4 ≤ 140737488351232) :
    Calls Try.prog 3 #[.slice a0 n0 cap0, .slice a1 n1 cap1] w fun e w' => e = .returned (.bool true) ∧ Below w.heap.size w w' := by
  have H0 := hide h0
  have H1 := hide h1
  have L0 := hide h0.len
  have L1 := hide h1.len
  clear h0 h1 hf0 hf1
  go_enter Try.func3, Try.ntmps3
  go_wp2_with fail
  refine (works_any _).mono ?_
  rintro e w1 ⟨rfl, hb1⟩
  have HB1 := hide hb1
  clear hb1
  go_wp2_with fail
  rcases Utf.bad_or l with hok | ⟨j, hj, hbad, hfirst⟩
  · have hbe : Bytes (Utf.enc l) := Utf.enc_bytes hok
    refine (encode_ok _ _ _ _ _ (H0.out.below HB1.out) hs0 hok).mono ?_
    rintro e w2 ⟨v2, rfl, ho2, hb2⟩
    obtain ⟨a2, c2, rfl, hr2⟩ := row_of_owns ho2
    have HR2 := hide hr2
    have HB2 := hide (HB1.out.trans (hb2.mono HB1.out.size))
    clear ho2 hb2 hr2
    go_wp2_with fail
    rcases Utf.bad_or k with hok1 | ⟨j, hj, hbad, hfirst⟩
    · have hbe1 : Bytes (Utf.enc k) := Utf.enc_bytes hok1
      refine (encode_ok _ _ _ _ _ (H1.out.below HB2.out) hs1 hok1).mono ?_
      rintro e w3 ⟨v3, rfl, ho3, hb3⟩
      obtain ⟨a3, c3, rfl, hr3⟩ := row_of_owns ho3
      have HR3 := hide hr3
      have HR23 := hide (HR2.out.below hb3)
      have HB3 := hide (HB2.out.trans (hb3.mono HB2.out.size))
      have hq1 := fun q => run_str (w3.drewN q) _ _ _ _ (HR23.out.below (below_drewN (Below.refl _ w3) q)) hbe
      have hq2 := fun q => run_str (w3.drewN q) _ _ _ _ (HR3.out.below (below_drewN (Below.refl _ w3) q)) hbe1
      have HLS := hide ((Utf.str_less _ _ hbe hbe1).trans (Utf.enc_less l k hok hok1))
      clear ho3 hb3 hr3 hbe hbe1 hok hok1
      generalize (Utf.enc l).length = m0 at *
      generalize (Utf.enc k).length = m1 at *
      generalize str (Utf.enc l) = s0 at *
      generalize str (Utf.enc k) = s1 at *
      go_wp2
      go_loopw [11, 12] (fun t i wr => ∃ q nq : Nat, i = .int .i64 q ∧ t = .bool (decide ((n0 : Int) < (n1 : Int))) ∧ q ≤ n0 ∧ q ≤ n1 ∧ Hid (Utf.Alike l k q) ∧ wr = w3.drewN nq) (fun _ i _ => n0 - (intOf i).toNat)
      case atStart => exact ⟨0, 0, rfl, by simp, Nat.zero_le _, Nat.zero_le _, Utf.Alike.start l k, rfl⟩
      case round =>
        obtain ⟨q, nq, rfl, rfl, hq0, hq1', hal, rfl⟩ := hrel
        by_cases hgo : q < n0 ∧ q < n1
        · obtain ⟨g0, g1⟩ := hgo
          obtain ⟨b0, o0, rfl, hbl0, hc0⟩ := H0.out.cells (by omega)
          obtain ⟨b1, o1, rfl, hbl1, hc1⟩ := H1.out.cells (by omega)
          have f0 := (HB3.out.cell (p := ⟨b0, o0 + q, none⟩) hbl0).trans (hc0 q (by have := L0.out; omega))
          have f1 := (HB3.out.cell (p := ⟨b1, o1 + q, none⟩) hbl1).trans (hc1 q (by have := L1.out; omega))
          have HST := hide (fun he => hal.out.step (by have := L0.out; omega) (by have := L1.out; omega) he)
          have HSP := hide (fun he => hal.out.stop (by have := L0.out; omega) (by have := L1.out; omega) he)
          clear hc0 hc1 hal
          generalize l.getD q 0 = x at *
          generalize k.getD q 0 = y at *
          have i0 : (q : Int) < (n0 : Int) := by omega
          have i1 : (q : Int) < (n1 : Int) := by omega
          by_cases hxy : x = y
          · have HX := hide (HST.out hxy)
            have hne : (x != y) = false := by simp [hxy]
            clear HST HSP hxy
            go_wp2
            go_quiet (fail)
            go_wp2
            go_roundw
            case rel => exact ⟨q + 1, _, by go_num, rfl, by omega, by omega, HX, by first | rfl | exact World.drewN_drewN _ _ _⟩
            case measure => simp [intOf]; omega
          · have hE := HLS.out.trans (HSP.out hxy)
            have hne : (x != y) = true := by simp [hxy]
            clear HST HSP hxy
            go_wp2
            go_quiet (fail)
            go_wp2
            go_quiet (fail)
            go_wp2
            go_ret
            exact ⟨rfl, by repeat (first | exact HB3.out | refine below_drewN ?_ _)⟩
        · have hE := HLS.out.trans (hal.out.end (by have := L0.out; have := L1.out; omega))
          rw [L0.out, L1.out] at hE
          clear hal
          by_cases g0 : q < n0
          · have g1 : ¬ q < n1 := by omega
            clear hgo
            go_wp2
            go_ret
            exact ⟨rfl, by repeat (first | exact HB3.out | refine below_drewN ?_ _)⟩
          · clear hgo
            go_wp2
            go_ret
            exact ⟨rfl, by repeat (first | exact HB3.out | refine below_drewN ?_ _)⟩
    · have hjn : j < n1 := by have := L1.out; omega
      refine (encode_bad _ _ _ _ _ (H1.out.below HB2.out) hs1 j hjn hbad hfirst).mono ?_
      rintro e w3 ⟨rfl, rfl⟩
      clear hbad hfirst hok hbe
      go_wp2
      go_ret
      exact ⟨rfl, HB2.out⟩
  · have hjn : j < n0 := by have := L0.out; omega
    refine (encode_bad _ _ _ _ _ (H0.out.below HB1.out) hs0 j hjn hbad hfirst).mono ?_
    rintro e w2 ⟨rfl, rfl⟩
    clear hbad hfirst hj
    go_wp2_with fail
    refine (encode_some _ _ _ _ _ (H1.out.below HB1.out) hs1).mono ?_
    rintro e w3 ⟨a2, n2, c2, p, q, rfl, hb3⟩
    have HB3 := hide (HB1.out.trans (hb3.mono HB1.out.size))
    clear hb3
    go_wp2
    go_ret
    exact ⟨rfl, HB3.out⟩
end Go.Proofs.Ytkcalmighgdojab
