/- SpotFlips: in a mirror steps to the right are steps to the left; the mirror of the mirror is the line. -/
import Derived.Test.YtbbhefiibcbbfaaWorks15
namespace Go.Proofs.Ytbbhefiibcbbfaa
open Go.RowKit
set_option linter.unusedVariables false
set_option maxHeartbeats 1600000
set_option maxRecDepth 100000
namespace Fl
open Ieee
theorem neg_fb {y : Int} (h : y.natAbs ≤ 1) : (FloatKind.f64.format.order (fb (-y)) (Op.negFloat .f64 (fb y)) != some .eq) = false := by
  obtain rfl | rfl | rfl : y = 0 ∨ y = 1 ∨ y = -1 := by omega
  · decide
  · decide
  · decide
end Fl
theorem FP_wz {B n : Nat} {Z : List (Int × Int)} (h : Wz B Z) (hl : Z.length = n) : Wz (B + n) (Spt.FP Z) := by
  intro i
  by_cases hi : i < Z.length
  · rw [Spt.FP_at _ hi]
    have h1 := h i
    have h2 := Spt.cnt_le Z
    exact ⟨by show ((Spt.cnt Z : Int) - 1 - (Z.getD i (0, 0)).1).natAbs < B + n; omega, by show (-(Z.getD i (0, 0)).2).natAbs ≤ 1; omega⟩
  · have : (Spt.FP Z).getD i (0, 0) = (0, 0) := by
      have hl2 := Spt.FP_len Z
      simp [List.getD, List.getElem?_eq_none (show (Spt.FP Z).length ≤ i by omega)]
    rw [this]
    have := (h i).1
    exact ⟨by show (0 : Int).natAbs < B + n; simp; omega, by show (0 : Int).natAbs ≤ 1; decide⟩
theorem SpotFlips_walk (w : World) (a0 : Option Addr) (n0 c0 : Nat) (l : List Int) (h0 : Row .i64 w a0 n0 c0 l) (f0 : ∀ x ∈ l, (Lit.int .i64 x).wf = true) (b0 : n0 * 8 ≤ 140737488351232) (base : Int) (hbs : (Lit.int .i64 base).wf = true) (i : Int) (hi : (Lit.int .i64 i).wf = true) (right : Bool) :
    Calls Try.prog 7 #[.slice a0 n0 c0, .int .i64 base, .int .i64 i, .bool right] w fun e w' => e = .returned (.bool true) ∧ Below w.heap.size w w' := by
  have HW := hide (works15_any w)
  obtain ⟨Z, E, hSA⟩ := SPA_some l base
  have hwz := SPA_wz hSA 17592186044416 (by rw [h0.len]; omega)
  have HA := hide (fun (W : World) (hk : KO w W) => spots_any a0 n0 c0 l base W (h0.below hk) b0 Z E hSA)
  have hl := h0.len
  clear hbs f0
  rcases hSA with ⟨⟨hb01, hfo⟩, hZ, rfl⟩ | ⟨_, rfl, rfl⟩
  · have hZl : Z.length = n0 + 1 := by rw [hZ, Spt.SP_len, Spt.al_len, hl]
    obtain ⟨N, hN⟩ : ∃ N, Z.length = N := ⟨_, rfl⟩
    have hNle : N ≤ 17592186044416 := by omega
    have hNb : N * 16 ≤ 281474976710656 := by omega
    have hN1 : 1 ≤ N := by omega
    have hwf := FP_wz hwz hN
    have HST := hide (fun (i s : Int) (x : Option Addr) (c : Nat) (W : World) (h : ZR W x N c Z) => step_any Z i s 17592186044416 (by omega) hwz x N c W h)
    have HSF := hide (fun (i s : Int) (x : Option Addr) (c : Nat) (W : World) (h : ZR W x N c (Spt.FP Z)) => step_any (Spt.FP Z) i s (17592186044416 + N) (by omega) hwf x N c W h)
    have HF1 := hide (fun (x : Option Addr) (c : Nat) (W : World) (h : ZR W x N c Z) => flip_any Z 17592186044416 hwz x N c W h (by omega) hNb)
    have HF2 := hide (fun (x : Option Addr) (c : Nat) (W : World) (h : ZR W x N c (Spt.FP Z)) => flip_any (Spt.FP Z) (17592186044416 + N) hwf x N c W h (by omega) hNb)
    rw [Spt.FP_twice] at HF2
    rw [hN] at HA
    have HWZ := hide hwz
    have HFP := hide (fun i (h : i < N) => Spt.FP_at Z (i := i) (by rw [hN]; exact h))
    have HSFP := hide (fun i s => Spt.ST_FP Z i s)
    obtain ⟨k, hk, ek⟩ := place_at i N (by omega) (by omega)
    have HEK := hide ek
    have hNN : ((N : Int) != (N : Int)) = false := by simp
    clear hZ hb01 hfo h0 hwz hwf hl hZl hi ek hN
    cases right with
    | true =>
      have HS1 := hide (HST.out (k : Int) (1))
      have HT1 := hide (HSF.out (k : Int) (-1))
      rw [show Spt.ST (Spt.FP Z) (k : Int) (-1) = Spt.ST Z (k : Int) (1) from (by have h9 := HSFP.out (k : Int) (1); rw [show -(1 : Int) = -1 from by decide] at h9; exact h9)] at HT1
      obtain ⟨r, hr⟩ : ∃ r, Spt.ST Z (k : Int) (1) = r := ⟨_, rfl⟩
      rw [hr] at HS1 HT1
      have hr1 : (r.1 != r.1) = false := by simp
      have hr2 : (r.2 != r.2) = false := by simp
      clear hr HST HSF HSFP
      generalize r.1 = ra at *
      generalize r.2 = rb at *
      go_enter Try.func7, Try.ntmps7
      go_wp2_with fail
      refine HW.out.mono ?_
      rintro e w1 ⟨rfl, hk1⟩
      have K1 := hide hk1
      have HA1 := hide (HA.out w1 hk1)
      clear hk1 HW HA
      go_wp2_with fail
      refine HA1.out.mono ?_
      rintro e w2 ⟨x2, c2, rfl, hz2, hk2⟩
      have K2 := hide (KO.on K1.out hk2)
      have Z2 := hide hz2
      have HF3 := hide (HF1.out x2 c2 w2 hz2)
      clear hz2 hk2 HA1 HF1
      go_wp2_with fail
      refine HF3.out.mono ?_
      rintro e w3 ⟨rfl, hz3, hk3⟩
      have K3 := hide (KO.on K2.out hk3)
      have M3 := hide hz3
      have Z3 := hide (Z2.out.below hk3)
      have HS3 := hide (HS1.out x2 c2 w3 (Z2.out.below hk3))
      clear hz3 hk3 HF3 HS1 Z2
      generalize w2.heap.size = g3 at *
      go_wp2_with fail
      rw [HEK.out]
      refine HS3.out.mono ?_
      rintro e w4 ⟨rfl, hk4⟩
      have K4 := hide (KO.on K3.out hk4)
      have M4 := hide (M3.out.below hk4)
      have Z4 := hide (Z3.out.below hk4)
      have HT4 := hide (HT1.out _ _ _ M4.out)
      clear hk4 HS3 HT1 M3 Z3
      go_wp2_with fail
      refine HT4.out.mono ?_
      rintro e w5 ⟨rfl, hk5⟩
      have K5 := hide (KO.on K4.out hk5)
      have M5 := hide (M4.out.below hk5)
      have Z5 := hide (Z4.out.below hk5)
      have HF5 := hide (HF2.out _ _ _ M5.out)
      clear hk5 HT4 HF2 M4 Z4
      go_wp2_with fail
      refine HF5.out.mono ?_
      rintro e w6 ⟨rfl, hz6, hk6⟩
      have K6 := hide (KO.on K5.out hk6)
      have M6 := hide (M5.out.below hk6)
      have Z6 := hide (Z5.out.below hk6)
      have B6 := hide hz6
      clear hz6 hk6 HF5 M5 Z5
      generalize w5.heap.size = g6 at *
      go_wp2
      go_loopw [80] (fun s80 W => ∃ j : Nat, s80 = .int .i64 (j : Int) ∧ j ≤ N ∧ Hid (KO w6 W)) (fun s80 _ => N - (intOf s80).toNat)
      case atStart => exact ⟨0, rfl, Nat.zero_le _, hide (KO.refl _)⟩
      case round =>
        obtain ⟨j, rfl, hj, hkw⟩ := hrel
        by_cases hlt : j < N
        · have hin : (j : Int) < (N : Int) := by omega
          obtain ⟨b2, o2, rfl, hb2, hc2⟩ := Z6.out.at (by omega)
          obtain ⟨b3, o3, e3, hb3, hc3⟩ := M6.out.at (by omega)
          obtain ⟨b6, o6, e6, hb6, hc6⟩ := B6.out.at (by omega)
          simp only [Option.some.injEq, Addr.mk.injEq, and_true] at e3 e6
          obtain ⟨rfl, rfl⟩ := e3
          obtain ⟨rfl, rfl⟩ := e6
          have cz := (Below.cell hkw.out (by exact hb2)).trans (hc2 j hlt)
          have cm := (Below.cell hkw.out (by exact hb3)).trans (hc3 j hlt)
          have cb := (Below.cell hkw.out (by exact hb6)).trans (hc6 j hlt)
          rw [HFP.out j hlt] at cm
          simp only [Nat.zero_add] at cm cb
          have hwj := HWZ.out j
          have q1 := Fl.eq_fb (a := (Z.getD j (0, 0)).1) (b := (Z.getD j (0, 0)).1) (by omega) (by omega)
          have q2 := Fl.eq_fb (a := (Z.getD j (0, 0)).2) (b := (Z.getD j (0, 0)).2) (by omega) (by omega)
          rw [decide_eq_true rfl] at q1 q2
          have q3 := Fl.neg_fb hwj.2
          generalize Fl.fb (Z.getD j (0, 0)).1 = X at *
          generalize Fl.fb (-(Z.getD j (0, 0)).2) = YM at *
          generalize Fl.fb (Z.getD j (0, 0)).2 = Y at *
          generalize Fl.fb ((Spt.cnt Z : Int) - 1 - (Z.getD j (0, 0)).1) = XM at *
          have hne : ∀ W, (binOp .neq 38 (.complex .f64 X Y) (.complex .f64 X Y)).run Try.prog W = .ok (.bool false) W := fun W => by rw [run_neq_complex, q1, q2]; rfl
          have hng : Op.unary .neg (.float .f64 Y) = pure (.float .f64 (Op.negFloat .f64 Y)) := rfl
          clear hc2 hc3 hc6 hwj q1 q2
          go_wp2_with fail
          go_quiet (fail)
          have K7 := hide (KO.on hkw.out (below_of_drewN ⟨nq, rfl⟩))
          clear hkw hng hne q3 cz cm cb
          go_wp2
          go_roundw
          case rel => exact ⟨j + 1, by go_num, by omega, K7⟩
          case measure => simp [intOf]; omega
        · obtain rfl : N = j := by omega
          have hne : ¬ (N : Int) < (N : Int) := by omega
          have K7 := hide (KO.on K6.out hkw.out)
          clear hkw
          go_wp2
          go_ret
          exact ⟨rfl, K7.out⟩
    | false =>
      have HS1 := hide (HST.out (k : Int) (-1))
      have HT1 := hide (HSF.out (k : Int) (1))
      rw [show Spt.ST (Spt.FP Z) (k : Int) (1) = Spt.ST Z (k : Int) (-1) from (by have h9 := HSFP.out (k : Int) (-1); rw [show -(-1 : Int) = 1 from by decide] at h9; exact h9)] at HT1
      obtain ⟨r, hr⟩ : ∃ r, Spt.ST Z (k : Int) (-1) = r := ⟨_, rfl⟩
      rw [hr] at HS1 HT1
      have hr1 : (r.1 != r.1) = false := by simp
      have hr2 : (r.2 != r.2) = false := by simp
      clear hr HST HSF HSFP
      generalize r.1 = ra at *
      generalize r.2 = rb at *
      go_enter Try.func7, Try.ntmps7
      go_wp2_with fail
      refine HW.out.mono ?_
      rintro e w1 ⟨rfl, hk1⟩
      have K1 := hide hk1
      have HA1 := hide (HA.out w1 hk1)
      clear hk1 HW HA
      go_wp2_with fail
      refine HA1.out.mono ?_
      rintro e w2 ⟨x2, c2, rfl, hz2, hk2⟩
      have K2 := hide (KO.on K1.out hk2)
      have Z2 := hide hz2
      have HF3 := hide (HF1.out x2 c2 w2 hz2)
      clear hz2 hk2 HA1 HF1
      go_wp2_with fail
      refine HF3.out.mono ?_
      rintro e w3 ⟨rfl, hz3, hk3⟩
      have K3 := hide (KO.on K2.out hk3)
      have M3 := hide hz3
      have Z3 := hide (Z2.out.below hk3)
      have HS3 := hide (HS1.out x2 c2 w3 (Z2.out.below hk3))
      clear hz3 hk3 HF3 HS1 Z2
      generalize w2.heap.size = g3 at *
      go_wp2_with fail
      rw [HEK.out]
      refine HS3.out.mono ?_
      rintro e w4 ⟨rfl, hk4⟩
      have K4 := hide (KO.on K3.out hk4)
      have M4 := hide (M3.out.below hk4)
      have Z4 := hide (Z3.out.below hk4)
      have HT4 := hide (HT1.out _ _ _ M4.out)
      clear hk4 HS3 HT1 M3 Z3
      go_wp2_with fail
      refine HT4.out.mono ?_
      rintro e w5 ⟨rfl, hk5⟩
      have K5 := hide (KO.on K4.out hk5)
      have M5 := hide (M4.out.below hk5)
      have Z5 := hide (Z4.out.below hk5)
      have HF5 := hide (HF2.out _ _ _ M5.out)
      clear hk5 HT4 HF2 M4 Z4
      go_wp2_with fail
      refine HF5.out.mono ?_
      rintro e w6 ⟨rfl, hz6, hk6⟩
      have K6 := hide (KO.on K5.out hk6)
      have M6 := hide (M5.out.below hk6)
      have Z6 := hide (Z5.out.below hk6)
      have B6 := hide hz6
      clear hz6 hk6 HF5 M5 Z5
      generalize w5.heap.size = g6 at *
      go_wp2
      go_loopw [80] (fun s80 W => ∃ j : Nat, s80 = .int .i64 (j : Int) ∧ j ≤ N ∧ Hid (KO w6 W)) (fun s80 _ => N - (intOf s80).toNat)
      case atStart => exact ⟨0, rfl, Nat.zero_le _, hide (KO.refl _)⟩
      case round =>
        obtain ⟨j, rfl, hj, hkw⟩ := hrel
        by_cases hlt : j < N
        · have hin : (j : Int) < (N : Int) := by omega
          obtain ⟨b2, o2, rfl, hb2, hc2⟩ := Z6.out.at (by omega)
          obtain ⟨b3, o3, e3, hb3, hc3⟩ := M6.out.at (by omega)
          obtain ⟨b6, o6, e6, hb6, hc6⟩ := B6.out.at (by omega)
          simp only [Option.some.injEq, Addr.mk.injEq, and_true] at e3 e6
          obtain ⟨rfl, rfl⟩ := e3
          obtain ⟨rfl, rfl⟩ := e6
          have cz := (Below.cell hkw.out (by exact hb2)).trans (hc2 j hlt)
          have cm := (Below.cell hkw.out (by exact hb3)).trans (hc3 j hlt)
          have cb := (Below.cell hkw.out (by exact hb6)).trans (hc6 j hlt)
          rw [HFP.out j hlt] at cm
          simp only [Nat.zero_add] at cm cb
          have hwj := HWZ.out j
          have q1 := Fl.eq_fb (a := (Z.getD j (0, 0)).1) (b := (Z.getD j (0, 0)).1) (by omega) (by omega)
          have q2 := Fl.eq_fb (a := (Z.getD j (0, 0)).2) (b := (Z.getD j (0, 0)).2) (by omega) (by omega)
          rw [decide_eq_true rfl] at q1 q2
          have q3 := Fl.neg_fb hwj.2
          generalize Fl.fb (Z.getD j (0, 0)).1 = X at *
          generalize Fl.fb (-(Z.getD j (0, 0)).2) = YM at *
          generalize Fl.fb (Z.getD j (0, 0)).2 = Y at *
          generalize Fl.fb ((Spt.cnt Z : Int) - 1 - (Z.getD j (0, 0)).1) = XM at *
          have hne : ∀ W, (binOp .neq 38 (.complex .f64 X Y) (.complex .f64 X Y)).run Try.prog W = .ok (.bool false) W := fun W => by rw [run_neq_complex, q1, q2]; rfl
          have hng : Op.unary .neg (.float .f64 Y) = pure (.float .f64 (Op.negFloat .f64 Y)) := rfl
          clear hc2 hc3 hc6 hwj q1 q2
          go_wp2_with fail
          go_quiet (fail)
          have K7 := hide (KO.on hkw.out (below_of_drewN ⟨nq, rfl⟩))
          clear hkw hng hne q3 cz cm cb
          go_wp2
          go_roundw
          case rel => exact ⟨j + 1, by go_num, by omega, K7⟩
          case measure => simp [intOf]; omega
        · obtain rfl : N = j := by omega
          have hne : ¬ (N : Int) < (N : Int) := by omega
          have K7 := hide (KO.on K6.out hkw.out)
          clear hkw
          go_wp2
          go_ret
          exact ⟨rfl, K7.out⟩
  · clear h0 hwz hl hi
    simp only [List.length_nil] at HA
    go_enter Try.func7, Try.ntmps7
    go_wp2_with fail
    refine HW.out.mono ?_
    rintro e w1 ⟨rfl, hk1⟩
    have K1 := hide hk1
    have HA1 := hide (HA.out w1 hk1)
    clear hk1 HW HA
    go_wp2_with fail
    refine HA1.out.mono ?_
    rintro e w2 ⟨x2, c2, rfl, hz2, hk2⟩
    have K2 := hide (KO.on K1.out hk2)
    clear hz2 hk2 HA1
    go_wp2
    go_ret
    exact ⟨rfl, K2.out⟩
end Go.Proofs.Ytbbhefiibcbbfaa
