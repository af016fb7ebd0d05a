/- SpotBack: a step to the one side and one to the other lead back. -/
import Derived.Test.YtbbhefiibcbbfaaWorks15
import Derived.Deep.RegionHeld3
namespace Go.Proofs.Ytbbhefiibcbbfaa
open Go.RowKit
set_option linter.unusedVariables false
set_option maxHeartbeats 1600000
set_option maxRecDepth 100000
namespace Spt
/-- What a step and the step back answer. -/
def BK (Z : List (Int × Int)) (k : Nat) (s : Int) : Prop := ST Z (k : Int) s = (0, 150) ∨ ∃ p q : Nat, p < Z.length ∧ q < Z.length ∧ ST Z (k : Int) s = ((p : Int), 0) ∧ (Z.getD p (0, 0)).1 = (Z.getD k (0, 0)).1 + s ∧ ST Z (p : Int) (-s) = ((q : Int), 0) ∧ (Z.getD q (0, 0)).1 = (Z.getD k (0, 0)).1 ∧ (¬ (Z.getD k (0, 0)).2 = 0 → q = k)
theorem at_OD {a : List Int} (hf : Od.Fo a) (he : End a) {c : Nat} (hc : c < (Od.OD a).length) : (Od.OD a).getD c 0 < a.length ∧ (sp a ((Od.OD a).getD c 0)).1 = (c : Int) := by
  have hs := ((Od.OD_vis hf).mem _).1 (Od.OD_in hc)
  have hlt := (Od.sn_at hs).1
  refine ⟨hlt, ?_⟩
  rw [sp_seen he hs]
  exact co_at hf hc
theorem back {a : List Int} (hf : Od.Fo a) (he : End a) {k : Nat} (hk : k < a.length) {s : Int} (hs : s = 1 ∨ s = -1) : BK (SP a) k s := by
  obtain ⟨c, h1, h2, h3⟩ := col_range hf he hk
  have hS := ST_SP hf he hk h3 h1
  have hfin : ∀ d : Nat, d < (Od.OD a).length → ST (SP a) (k : Int) s = ((((Od.OD a).getD d 0 : Nat) : Int), 0) → (d : Int) = c + s → ST (SP a) (((Od.OD a).getD d 0 : Nat) : Int) (-s) = ((((Od.OD a).getD c 0 : Nat) : Int), 0) → BK (SP a) k s := by
    intro d hd e1 e2 e3
    obtain ⟨p1, p2⟩ := at_OD hf he hd
    obtain ⟨q1, q2⟩ := at_OD hf he h1
    refine .inr ⟨_, _, by rw [SP_len]; exact p1, by rw [SP_len]; exact q1, e1, ?_, e3, ?_, ?_⟩
    · rw [SP_at a p1, SP_at a hk, p2, h3, e2]
    · rw [SP_at a q1, SP_at a hk, q2, h3]
    · intro hz
      rw [SP_at a hk] at hz
      rw [h2]
      exact (nx_self he hk).2 ((ln_seen he hk).1 hz)
  rcases hs with rfl | rfl
  · by_cases hlt : c + 1 < (Od.OD a).length
    · have e := hS.1
      rw [if_pos hlt, if_pos hlt] at e
      obtain ⟨p1, p2⟩ := at_OD hf he hlt
      have e3 := (ST_SP hf he p1 p2 hlt).2
      rw [if_pos (by omega), if_pos (by omega), Nat.add_sub_cancel] at e3
      exact hfin (c + 1) hlt e (by omega) e3
    · have e := hS.1
      rw [if_neg hlt, if_neg hlt] at e
      exact .inl e
  · by_cases hlt : 0 < c
    · have e := hS.2
      rw [if_pos hlt, if_pos hlt] at e
      have hc1 : c - 1 < (Od.OD a).length := by omega
      obtain ⟨p1, p2⟩ := at_OD hf he hc1
      have e3 := (ST_SP hf he p1 p2 hc1).1
      have hc2 : c - 1 + 1 = c := by omega
      rw [hc2, if_pos h1, if_pos h1] at e3
      exact hfin (c - 1) hc1 e (by omega) e3
    · have e := hS.2
      rw [if_neg hlt, if_neg hlt] at e
      exact .inl e
end Spt
theorem SpotBack_walk (w : World) (a0 : Option Addr) (n0 c0 : Nat) (l : List Int) (h0 : Row .i64 w a0 n0 c0 l) (f0 : ∀ x ∈ l, (Lit.int .i64 x).wf = true) (b0 : n0 * 8 ≤ 140737488351232) (base : Int) (hbs : (Lit.int .i64 base).wf = true) (i : Int) (hi : (Lit.int .i64 i).wf = true) (right : Bool) :
    Calls Try.prog 5 #[.slice a0 n0 c0, .int .i64 base, .int .i64 i, .bool right] w fun e w' => e = .returned (.bool true) ∧ Below w.heap.size w w' := by
  have HW := hide (works15_any w)
  obtain ⟨Z, E, hSA⟩ := SPA_some l base
  have hwz := SPA_wz hSA 17592186044416 (by rw [h0.len]; omega)
  have HA := hide (fun (W : World) (hk : KO w W) => spots_any a0 n0 c0 l base W (h0.below hk) b0 Z E hSA)
  have hl := h0.len
  clear hbs f0
  rcases hSA with ⟨⟨hb01, hfo⟩, hZ, rfl⟩ | ⟨_, rfl, rfl⟩
  · have hZl : Z.length = n0 + 1 := by rw [hZ, Spt.SP_len, Spt.al_len, hl]
    have HBK := hide (fun (k : Nat) (hk : k < Z.length) (s : Int) (hs : s = 1 ∨ s = -1) => show Spt.BK Z k s from by
      rw [hZ] at hk ⊢
      rw [Spt.SP_len] at hk
      exact Spt.back ((Spt.al_fo hb01).2 hfo) (Spt.al_endE hb01) hk hs)
    have HST := hide (fun (i s : Int) (x : Option Addr) (c : Nat) (W : World) (h : ZR W x Z.length c Z) => step_any Z i s 17592186044416 (by omega) hwz x Z.length c W h)
    obtain ⟨N, hN⟩ : ∃ N, Z.length = N := ⟨_, rfl⟩
    have hNle : N ≤ 17592186044416 := by omega
    have hN1 : 1 ≤ N := by omega
    rw [hN] at HA HBK HST
    have HWZ := hide hwz
    obtain ⟨k, hk, ek⟩ := place_at i N (by omega) (by omega)
    have HEK := hide ek
    clear hZ hb01 hfo h0 hwz hl hZl hi ek
    cases right with
    | true =>
      obtain hb | ⟨p, q, hp, hq, hb1, hb2, hb3, hb4, hb5⟩ := HBK.out k hk (1) (by decide)
      · have HS1 := hide (HST.out (k : Int) (1))
        rw [hb] at HS1
        clear hb HBK HWZ HST
        go_enter Try.func5, Try.ntmps5
        go_wp2_with fail
        refine HW.out.mono ?_
        rintro e w1 ⟨rfl, hk1⟩
        have K1 := hide hk1
        have HA1 := hide (HA.out w1 hk1)
        clear hk1 HW HA
        go_wp2_with fail
        refine HA1.out.mono ?_
        rintro e w2 ⟨x2, c2, rfl, hz2, hk2⟩
        have K2 := hide (KO.on K1.out hk2)
        have HS2 := hide (HS1.out x2 c2 w2 hz2)
        clear hz2 hk2 HA1 HS1
        go_wp2_with fail
        rw [HEK.out]
        refine HS2.out.mono ?_
        rintro e w3 ⟨rfl, hk3⟩
        have K3 := hide (KO.on K2.out hk3)
        clear hk3 HS2
        go_wp2
        go_ret
        exact ⟨rfl, K3.out⟩
      · rw [hN] at hp hq
        have HS1 := hide (HST.out (k : Int) (1))
        have HT1 := hide (HST.out (p : Int) (-1))
        rw [hb1] at HS1
        rw [show -(1 : Int) = -1 from by decide] at hb3
        rw [hb3] at HT1
        have hwk := HWZ.out k
        have hwp := HWZ.out p
        have hadd : ∀ W, (binOp .add 43 (.float .f64 (Fl.fb (Z.getD k (0, 0)).1)) (.float .f64 (floatOfInt .f64 (1)))).run Try.prog W = .ok (.float .f64 (Fl.fb (Z.getD p (0, 0)).1)) W := fun W => by
          refine run_float_arith W .add _ .f64 _ _ _ ?_
          rw [hb2]
          exact Fl.add_fb (by omega) (by decide) (by omega)
        have hne := Fl.ne_fb (a := (Z.getD p (0, 0)).1) (b := (Z.getD p (0, 0)).1) (by omega) (by omega)
        rw [decide_eq_true rfl] at hne
        simp only [Bool.not_true] at hne
        have heq := Fl.eq_fb (a := (Z.getD k (0, 0)).1) (b := (Z.getD k (0, 0)).1) (by omega) (by omega)
        rw [decide_eq_true rfl] at heq
        have hz0 := Fl.eq_fb (a := (Z.getD k (0, 0)).2) (b := 0) (by omega) (by decide)
        rw [Fl.fb_zero] at hz0
        have hxq : Fl.fb (Z.getD q (0, 0)).1 = Fl.fb (Z.getD k (0, 0)).1 := by rw [hb4]
        have HZQ : Hid (¬ (Z.getD k (0, 0)).2 = 0 → q = k) := hide hb5
        clear hb1 hb2 hb3 hb4 hb5 HBK HWZ HST hwk hwp
        go_enter Try.func5, Try.ntmps5
        go_wp2_with fail
        refine HW.out.mono ?_
        rintro e w1 ⟨rfl, hk1⟩
        have K1 := hide hk1
        have HA1 := hide (HA.out w1 hk1)
        clear hk1 HW HA
        go_wp2_with fail
        refine HA1.out.mono ?_
        rintro e w2 ⟨x2, c2, rfl, hz2, hk2⟩
        have K2 := hide (KO.on K1.out hk2)
        have Z2 := hide hz2
        have HS2 := hide (HS1.out x2 c2 w2 hz2)
        clear hz2 hk2 HA1 HS1
        go_wp2_with fail
        rw [HEK.out]
        refine HS2.out.mono ?_
        rintro e w3 ⟨rfl, hk3⟩
        have K3 := hide (KO.on K2.out hk3)
        obtain ⟨b2, o2, rfl, hb2, hc2⟩ := Z2.out.at (by omega)
        have ck := (Below.cell hk3 (by exact hb2)).trans (hc2 k hk)
        have cp := (Below.cell hk3 (by exact hb2)).trans (hc2 p hp)
        have CQ := hide (fun W (h : KO w2 W) => (Below.cell h (by exact hb2)).trans (hc2 q hq))
        rw [hxq] at CQ
        have CK := hide (fun W (h : KO w2 W) => (Below.cell h (by exact hb2)).trans (hc2 k hk))
        have HK23 := hide hk3
        have Z3 := hide (Z2.out.below hk3)
        generalize Fl.fb (Z.getD k (0, 0)).1 = Xk at *
        generalize hYk : Fl.fb (Z.getD k (0, 0)).2 = Yk at *
        generalize Fl.fb (Z.getD p (0, 0)).1 = Xp at *
        generalize Fl.fb (Z.getD p (0, 0)).2 = Yp at *
        generalize Fl.fb (Z.getD q (0, 0)).2 = Yq at *
        have hpi : (p : Int) < (N : Int) := by omega
        have hki : (k : Int) < (N : Int) := by omega
        have g1 : decide ((p : Int) < 0) = false := decide_eq_false (by omega)
        have g2 : decide ((N : Int) ≤ (p : Int)) = false := decide_eq_false (by omega)
        have g3 : decide (N ≤ p) = false := decide_eq_false (by omega)
        clear hk3 HS2 hc2 hYk hxq
        go_wp2_with fail
        go_quiet (fail)
        clear g1 g2 g3 hne hadd cp ck
        have hd4 : KO w3 (w3.drewN nq) := below_of_drewN ⟨nq, rfl⟩
        have HT4 := hide (HT1.out _ _ _ (Z3.out.below hd4))
        have HK4 := hide (KO.on HK23.out hd4)
        have K4 := hide (KO.on K3.out hd4)
        clear hd4 HT1
        go_wp2_with fail
        refine HT4.out.mono ?_
        rintro e w5 ⟨rfl, hk5⟩
        have K5 := hide (KO.on K4.out hk5)
        have ck := CK.out w5 (KO.on HK4.out hk5)
        have cq := CQ.out w5 (KO.on HK4.out hk5)
        have hqi : (q : Int) < (N : Int) := by omega
        clear hk5 HT4 HK4
        by_cases hz : (Z.getD k (0, 0)).2 = 0
        · rw [decide_eq_true hz] at hz0
          clear hz
          go_wp2_with fail
          go_quiet (fail)
          go_wp2
          go_ret
          exact ⟨rfl, KO.on K5.out (below_of_drewN ⟨_, rfl⟩)⟩
        · rw [decide_eq_false hz] at hz0
          have hqk := HZQ.out hz
          clear hz cq
          subst hqk
          go_wp2
          go_ret
          exact ⟨rfl, K5.out⟩
    | false =>
      obtain hb | ⟨p, q, hp, hq, hb1, hb2, hb3, hb4, hb5⟩ := HBK.out k hk (-1) (by decide)
      · have HS1 := hide (HST.out (k : Int) (-1))
        rw [hb] at HS1
        clear hb HBK HWZ HST
        go_enter Try.func5, Try.ntmps5
        go_wp2_with fail
        refine HW.out.mono ?_
        rintro e w1 ⟨rfl, hk1⟩
        have K1 := hide hk1
        have HA1 := hide (HA.out w1 hk1)
        clear hk1 HW HA
        go_wp2_with fail
        refine HA1.out.mono ?_
        rintro e w2 ⟨x2, c2, rfl, hz2, hk2⟩
        have K2 := hide (KO.on K1.out hk2)
        have HS2 := hide (HS1.out x2 c2 w2 hz2)
        clear hz2 hk2 HA1 HS1
        go_wp2_with fail
        rw [HEK.out]
        refine HS2.out.mono ?_
        rintro e w3 ⟨rfl, hk3⟩
        have K3 := hide (KO.on K2.out hk3)
        clear hk3 HS2
        go_wp2
        go_ret
        exact ⟨rfl, K3.out⟩
      · rw [hN] at hp hq
        have HS1 := hide (HST.out (k : Int) (-1))
        have HT1 := hide (HST.out (p : Int) (1))
        rw [hb1] at HS1
        rw [show -(-1 : Int) = 1 from by decide] at hb3
        rw [hb3] at HT1
        have hwk := HWZ.out k
        have hwp := HWZ.out p
        have hadd : ∀ W, (binOp .add 43 (.float .f64 (Fl.fb (Z.getD k (0, 0)).1)) (.float .f64 (floatOfInt .f64 (-1)))).run Try.prog W = .ok (.float .f64 (Fl.fb (Z.getD p (0, 0)).1)) W := fun W => by
          refine run_float_arith W .add _ .f64 _ _ _ ?_
          rw [hb2]
          exact Fl.add_fb (by omega) (by decide) (by omega)
        have hne := Fl.ne_fb (a := (Z.getD p (0, 0)).1) (b := (Z.getD p (0, 0)).1) (by omega) (by omega)
        rw [decide_eq_true rfl] at hne
        simp only [Bool.not_true] at hne
        have heq := Fl.eq_fb (a := (Z.getD k (0, 0)).1) (b := (Z.getD k (0, 0)).1) (by omega) (by omega)
        rw [decide_eq_true rfl] at heq
        have hz0 := Fl.eq_fb (a := (Z.getD k (0, 0)).2) (b := 0) (by omega) (by decide)
        rw [Fl.fb_zero] at hz0
        have hxq : Fl.fb (Z.getD q (0, 0)).1 = Fl.fb (Z.getD k (0, 0)).1 := by rw [hb4]
        have HZQ : Hid (¬ (Z.getD k (0, 0)).2 = 0 → q = k) := hide hb5
        clear hb1 hb2 hb3 hb4 hb5 HBK HWZ HST hwk hwp
        go_enter Try.func5, Try.ntmps5
        go_wp2_with fail
        refine HW.out.mono ?_
        rintro e w1 ⟨rfl, hk1⟩
        have K1 := hide hk1
        have HA1 := hide (HA.out w1 hk1)
        clear hk1 HW HA
        go_wp2_with fail
        refine HA1.out.mono ?_
        rintro e w2 ⟨x2, c2, rfl, hz2, hk2⟩
        have K2 := hide (KO.on K1.out hk2)
        have Z2 := hide hz2
        have HS2 := hide (HS1.out x2 c2 w2 hz2)
        clear hz2 hk2 HA1 HS1
        go_wp2_with fail
        rw [HEK.out]
        refine HS2.out.mono ?_
        rintro e w3 ⟨rfl, hk3⟩
        have K3 := hide (KO.on K2.out hk3)
        obtain ⟨b2, o2, rfl, hb2, hc2⟩ := Z2.out.at (by omega)
        have ck := (Below.cell hk3 (by exact hb2)).trans (hc2 k hk)
        have cp := (Below.cell hk3 (by exact hb2)).trans (hc2 p hp)
        have CQ := hide (fun W (h : KO w2 W) => (Below.cell h (by exact hb2)).trans (hc2 q hq))
        rw [hxq] at CQ
        have CK := hide (fun W (h : KO w2 W) => (Below.cell h (by exact hb2)).trans (hc2 k hk))
        have HK23 := hide hk3
        have Z3 := hide (Z2.out.below hk3)
        generalize Fl.fb (Z.getD k (0, 0)).1 = Xk at *
        generalize hYk : Fl.fb (Z.getD k (0, 0)).2 = Yk at *
        generalize Fl.fb (Z.getD p (0, 0)).1 = Xp at *
        generalize Fl.fb (Z.getD p (0, 0)).2 = Yp at *
        generalize Fl.fb (Z.getD q (0, 0)).2 = Yq at *
        have hpi : (p : Int) < (N : Int) := by omega
        have hki : (k : Int) < (N : Int) := by omega
        have g1 : decide ((p : Int) < 0) = false := decide_eq_false (by omega)
        have g2 : decide ((N : Int) ≤ (p : Int)) = false := decide_eq_false (by omega)
        have g3 : decide (N ≤ p) = false := decide_eq_false (by omega)
        clear hk3 HS2 hc2 hYk hxq
        go_wp2_with fail
        go_quiet (fail)
        clear g1 g2 g3 hne hadd cp ck
        have hd4 : KO w3 (w3.drewN nq) := below_of_drewN ⟨nq, rfl⟩
        have HT4 := hide (HT1.out _ _ _ (Z3.out.below hd4))
        have HK4 := hide (KO.on HK23.out hd4)
        have K4 := hide (KO.on K3.out hd4)
        clear hd4 HT1
        go_wp2_with fail
        refine HT4.out.mono ?_
        rintro e w5 ⟨rfl, hk5⟩
        have K5 := hide (KO.on K4.out hk5)
        have ck := CK.out w5 (KO.on HK4.out hk5)
        have cq := CQ.out w5 (KO.on HK4.out hk5)
        have hqi : (q : Int) < (N : Int) := by omega
        clear hk5 HT4 HK4
        by_cases hz : (Z.getD k (0, 0)).2 = 0
        · rw [decide_eq_true hz] at hz0
          clear hz
          go_wp2_with fail
          go_quiet (fail)
          go_wp2
          go_ret
          exact ⟨rfl, KO.on K5.out (below_of_drewN ⟨_, rfl⟩)⟩
        · rw [decide_eq_false hz] at hz0
          have hqk := HZQ.out hz
          clear hz cq
          subst hqk
          go_wp2
          go_ret
          exact ⟨rfl, K5.out⟩
  · have HN : Hid (([] : List (Int × Int)).length = 0) := hide rfl
    clear h0 hwz hl hi
    simp only [List.length_nil] at HA
    go_enter Try.func5, Try.ntmps5
    go_wp2_with fail
    refine HW.out.mono ?_
    rintro e w1 ⟨rfl, hk1⟩
    have K1 := hide hk1
    have HA1 := hide (HA.out w1 hk1)
    clear hk1 HW HA
    go_wp2_with fail
    refine HA1.out.mono ?_
    rintro e w2 ⟨x2, c2, rfl, hz2, hk2⟩
    have K2 := hide (KO.on K1.out hk2)
    clear hz2 hk2 HA1
    go_wp2
    go_ret
    exact ⟨rfl, K2.out⟩
end Go.Proofs.Ytbbhefiibcbbfaa
