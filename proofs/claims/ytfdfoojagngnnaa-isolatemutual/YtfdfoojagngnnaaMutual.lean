/- IsolateMutual: initiators and their PDIs tell one another. -/
import Derived.Test.YtfdfoojagngnnaaWorks
namespace Go.Proofs.Ytfdfoojagngnnaa
open Go.RowKit
set_option linter.unusedVariables false
set_option maxHeartbeats 2000000
set_option maxRecDepth 100000
theorem Row.at {w w' : World} {a : Addr} {b off n cap : Nat} {zs : List Int} (h : Row .i64 w (some ⟨b, off, none⟩) n cap zs) (hk : KO w w') (j : Nat) (hj : j < n) : w'.cell? ⟨b, off + j, none⟩ = some (.int .i64 (zs.getD j 0)) := by
  obtain ⟨b2, o2, e, hb, hc⟩ := h.cells (by omega)
  simp only [Option.some.injEq, Addr.mk.injEq, and_true] at e
  obtain ⟨rfl, rfl⟩ := e
  exact (Below.cell hk (by exact hb)).trans (hc j (by rw [h.len]; exact hj))
theorem own_at {w w' : World} {base n cap g : Nat} {zs : List Int} (h : w.ownsRow base 3 1 (.slice (some ⟨g, 0, none⟩) n cap) n (zs.map (Value.int .i64))) (hk : KO w w') (j : Nat) (hj : j < n) : w'.cell? ⟨g, j, none⟩ = some (.int .i64 (zs.getD j 0)) :=
  (Below.cell hk (by exact (h.lt g rfl).2)).trans (owns_cell h j hj)
theorem meas_n (n k : Nat) (h : k < n) : n - (intOf (.int .i64 ((k + 1 : Nat) : Int))).toNat < n - (intOf (.int .i64 (k : Int))).toNat := by simp [intOf]; omega
theorem IsolateMutual_walk (w : World) (a0 : Option Addr) (n0 cap0 : Nat) (c : List Int) (h0 : Row .i64 w a0 n0 cap0 c) (hf0 : ∀ x ∈ c, (Lit.int .i64 x).wf = true) (hs0 : n0 * 8 ≤ 140737488351232) :
    Calls Try.prog 5 #[.slice a0 n0 cap0] w fun e w' => e = .returned (.bool true) ∧ Below w.heap.size w w' := by
  have HM := hide (match_any a0 n0 cap0 c w h0 hs0)
  have H0 := hide h0
  have HN := hide hs0
  have HL := hide h0.len
  have hn2 : n0 ≤ 17592186044416 := by omega
  clear h0 hf0 hs0
  go_enter Try.func5, Try.ntmps5
  go_wp2_with fail
  refine HM.out.mono ?_
  rintro e w1 ⟨rfl, ho1, hb1⟩
  have HO1 := hide ho1
  have k1 : KO w w1 := hb1
  have HD := hide (depth_any a0 n0 cap0 c w1 (H0.out.below hb1) HN.out)
  clear ho1 hb1 HM
  go_wp2_with fail
  refine HD.out.mono ?_
  rintro e w2 ⟨rfl, ho2, hb2⟩
  have HO2 := hide ho2
  have k12 : KO w1 w2 := hb2
  have HW := hide (works_any w2)
  clear ho2 hb2 HD
  go_wp2_with fail
  refine HW.out.mono ?_
  rintro e w3 ⟨rfl, hb3⟩
  have k23 : KO w2 w3 := hb3
  have k3 : KO w w3 := KO.on k1 (KO.on k12 k23)
  have HK3 := hide k3
  have HMC := hide (fun (w' : World) (hk : KO w3 w') (j : Nat) (hj : j < n0) => own_at HO1.out (KO.on k12 (KO.on k23 hk)) j hj)
  have HDC := hide (fun (w' : World) (hk : KO w3 w') (j : Nat) (hj : j < n0) => own_at HO2.out (KO.on k23 hk) j hj)
  have HMA := hide (fun (j : Nat) (hj : j < n0) => Iso.MT_at c j (by rw [HL.out]; exact hj))
  have HDA := hide (fun (j : Nat) (hj : j < n0) => Iso.DP_at c j (by rw [HL.out]; exact hj))
  have HCC := hide (fun (w' : World) (hk : KO w3 w') (b off : Nat) (hr : Row .i64 w (some ⟨b, off, none⟩) n0 cap0 c) (j : Nat) (hj : j < n0) => hr.at (a := ⟨b, off, none⟩) (KO.on k3 hk) j hj)
  clear HW hb3 k12 k23 k1 k3 HO1 HO2
  generalize w.heap.size = G1 at *
  generalize w1.heap.size = G2 at *
  go_wp2_with fail
  go_loopw [31] (fun v wr => ∃ i : Nat, i ≤ n0 ∧ v = .int .i64 (i : Int) ∧ KO w3 wr) (fun v _ => n0 - (intOf v).toNat)
  case atStart => exact ⟨0, Nat.zero_le _, rfl, KO.refl _⟩
  case round =>
    obtain ⟨i, hi, rfl, hk⟩ := hrel
    by_cases hlt : i < n0
    · have hil : i < c.length := by rw [HL.out]; exact hlt
      obtain ⟨b, off, rfl, hbl, hc⟩ := H0.out.cells (by omega)
      have cc := HCC.out wr hk b off H0.out i hlt
      have cm := HMC.out wr hk i hlt
      have cd := HDC.out wr hk i hlt
      rw [HMA.out i hlt] at cm
      rw [HDA.out i hlt] at cd
      have hin : (i : Int) < (n0 : Int) := by omega
      have HT := hide (starts_any (c.getD i 0) wr)
      clear hc
      cases hs : Iso.st (c.getD i 0) with
      | true =>
        rw [hs] at HT
        have hmt : Iso.mt c i = (Iso.partner c i : Int) := by unfold Iso.mt; rw [if_pos hs]
        rw [hmt] at cm
        have hp1 := Iso.partner_gt c i
        have hp2 := Iso.partner_le c i hil
        rw [HL.out] at hp2
        by_cases hpn : Iso.partner c i < n0
        · have q1 := (Iso.partner_pdi hs (by rw [HL.out]; exact hpn)).1
          have q2 := Iso.mt_pair hs (by rw [HL.out]; exact hpn)
          have q3 := Iso.dp_pair hs (by rw [HL.out]; exact hpn)
          have HIN := hide (fun (j : Nat) (h1 : i < j) (h2 : j < Iso.partner c i) => Iso.dp_inside hs h1 h2 (by rw [HL.out]; omega))
          have cp := HCC.out wr hk b off H0.out (Iso.partner c i) hpn
          have cmp := HMC.out wr hk (Iso.partner c i) hpn
          have cdp := HDC.out wr hk (Iso.partner c i) hpn
          rw [q1] at cp
          rw [HMA.out _ hpn, q2] at cmp
          rw [HDA.out _ hpn, q3] at cdp
          generalize c.getD i 0 = x at *
          generalize Iso.partner c i = p at *
          have d1 : decide ((p : Int) ≤ (i : Int)) = false := decide_eq_false (by omega)
          have d1n : decide (p ≤ i) = false := decide_eq_false (by omega)
          have d2 : decide ((n0 : Int) < (p : Int)) = false := decide_eq_false (by omega)
          have d2n : decide (n0 < p) = false := decide_eq_false (by omega)
          have d3 : decide ((p : Int) < (n0 : Int)) = true := decide_eq_true (by omega)
          have d3n : decide (p < n0) = true := decide_eq_true (by omega)
          have hpn2 : (p : Int) < (n0 : Int) := by omega
          clear hs hmt hil q1 q2 q3
          go_wp2_with (go_at_call 17; refine HT.out.mono ?_; rintro e w' ⟨rfl, rfl⟩)
          go_quiet (fail)
          have hkn : KO w3 (wr.drewN nq) := KO.on hk (below_drewN _ _)
          by_cases h5 : n0 ≤ 500
          · have e5 : ¬ ((500 : Int) < (n0 : Int)) := by omega
            clear cd cdp cmp cp cm cc d1 d1n d2 d2n d3 d3n HT
            go_wp2_with fail
            go_loopw [8] (fun v wi => ∃ j : Nat, i < j ∧ j ≤ p ∧ v = .int .i64 (j : Int) ∧ Hid (KO w3 wi)) (fun v _ => p - (intOf v).toNat)
            case atStart => exact ⟨i + 1, by omega, by omega, by go_num, hkn⟩
            case round =>
              obtain ⟨j, hij, hj, rfl, hkj⟩ := hrel
              by_cases hjp : j < p
              · have x1 := HDC.out wr hkj.out j (by omega)
                have x2 := HDC.out wr hkj.out i (by omega)
                rw [HDA.out j (by omega)] at x1
                rw [HDA.out i (by omega)] at x2
                have hdd := HIN.out j hij hjp
                generalize Iso.dp c j = Dj at *
                generalize Iso.dp c i = Di at *
                have d4 : decide ((Dj : Int) ≤ (Di : Int)) = false := decide_eq_false (by omega)
                have d4n : decide (Dj ≤ Di) = false := decide_eq_false (by omega)
                have hjn : (j : Int) < (n0 : Int) := by omega
                have hjp2 : (j : Int) < (p : Int) := by omega
                clear HIN hdd
                go_wp2_with fail
                go_quiet (fail)
                go_wp2_with fail
                exact ⟨⟨j + 1, by omega, by omega, by go_num, hide (KO.on hkj.out (below_drewN _ _))⟩, meas_n p j hjp⟩
              · have hjp2 : ¬ ((j : Int) < (p : Int)) := by omega
                go_wp2_with fail
                exact ⟨⟨i + 1, by omega, by go_num, hkj.out⟩, meas_n n0 i hlt⟩
          · have e5 : (500 : Int) < (n0 : Int) := by omega
            go_wp2_with fail
            exact ⟨⟨i + 1, by omega, by go_num, hkn⟩, meas_n n0 i hlt⟩
        · have hpe : Iso.partner c i = n0 := by omega
          have HIN := hide (fun (j : Nat) (h1 : i < j) (h2 : j < Iso.partner c i) => Iso.dp_inside hs h1 h2 (by rw [HL.out]; omega))
          rw [hpe] at cm HIN
          have d1 : decide ((n0 : Int) ≤ (i : Int)) = false := decide_eq_false (by omega)
          have d1n : decide (n0 ≤ i) = false := decide_eq_false (by omega)
          have d2 : decide ((n0 : Int) < (n0 : Int)) = false := decide_eq_false (by omega)
          have d2n : decide (n0 < n0) = false := decide_eq_false (by omega)
          generalize c.getD i 0 = x at *
          clear hs hmt hil hpe hpn hp1 hp2
          go_wp2_with (go_at_call 17; refine HT.out.mono ?_; rintro e w' ⟨rfl, rfl⟩)
          go_quiet (fail)
          have hkn : KO w3 (wr.drewN nq) := KO.on hk (below_drewN _ _)
          by_cases h5 : n0 ≤ 500
          · have e5 : ¬ ((500 : Int) < (n0 : Int)) := by omega
            clear cd cm cc d1 d1n d2 d2n HT
            go_wp2_with fail
            go_loopw [8] (fun v wi => ∃ j : Nat, i < j ∧ j ≤ n0 ∧ v = .int .i64 (j : Int) ∧ Hid (KO w3 wi)) (fun v _ => n0 - (intOf v).toNat)
            case atStart => exact ⟨i + 1, by omega, by omega, by go_num, hkn⟩
            case round =>
              obtain ⟨j, hij, hj, rfl, hkj⟩ := hrel
              by_cases hjp : j < n0
              · have x1 := HDC.out wr hkj.out j (by omega)
                have x2 := HDC.out wr hkj.out i (by omega)
                rw [HDA.out j (by omega)] at x1
                rw [HDA.out i (by omega)] at x2
                have hdd := HIN.out j hij hjp
                generalize Iso.dp c j = Dj at *
                generalize Iso.dp c i = Di at *
                have d4 : decide ((Dj : Int) ≤ (Di : Int)) = false := decide_eq_false (by omega)
                have d4n : decide (Dj ≤ Di) = false := decide_eq_false (by omega)
                have hjn : (j : Int) < (n0 : Int) := by omega
                have hjp2 : (j : Int) < (n0 : Int) := by omega
                clear HIN hdd
                go_wp2_with fail
                go_quiet (fail)
                go_wp2_with fail
                exact ⟨⟨j + 1, by omega, by omega, by go_num, hide (KO.on hkj.out (below_drewN _ _))⟩, meas_n n0 j hjp⟩
              · have hjp2 : ¬ ((j : Int) < (n0 : Int)) := by omega
                go_wp2_with fail
                exact ⟨⟨i + 1, by omega, by go_num, hkj.out⟩, meas_n n0 i hlt⟩
          · have e5 : (500 : Int) < (n0 : Int) := by omega
            go_wp2_with fail
            exact ⟨⟨i + 1, by omega, by go_num, hkn⟩, meas_n n0 i hlt⟩
      | false =>
        rw [hs] at HT
        by_cases hx : c.getD i 0 = 23
        · have hx2 : (c.getD i 0 == 23) = true := beq_iff_eq.2 hx
          have hx3 : ∀ x, c.getD i 0 = x → x = 23 := fun x h => by rw [← h]; exact hx
          rcases Iso.mt_pdi hil hx with ⟨e1, e2⟩ | ⟨a, e1, ha, hsa, e3⟩
          · rw [e1] at cm
            rw [e2] at cd
            generalize c.getD i 0 = x at *
            clear hs hx hx3 hil
            go_wp2_with (go_at_call 17; refine HT.out.mono ?_; rintro e w' ⟨rfl, rfl⟩)
            go_roundw
            case rel => exact ⟨i + 1, by omega, by go_num, hk⟩
            case measure => simp [intOf]; omega
          · rw [e1] at cm
            have ca := HCC.out wr hk b off H0.out a (by omega)
            have cma := HMC.out wr hk a (by omega)
            rw [HMA.out a (by omega), e3] at cma
            have HTA := hide (starts_any (c.getD a 0) wr)
            rw [hsa] at HTA
            generalize c.getD i 0 = x at *
            generalize c.getD a 0 = y at *
            generalize Iso.dp c i = D at *
            have han : (a : Int) < (n0 : Int) := by omega
            have hai : ¬ ((i : Int) ≤ (a : Int)) := by omega
            have hxy : ¬ x = y := fun h => by rw [h, hsa] at hs; cases hs
            clear hs hx hx3 hil hsa e1 e3 hxy
            go_wp2_with fail
            refine HT.out.mono ?_
            rintro e w' ⟨rfl, rfl⟩
            go_wp2_with fail
            refine HTA.out.mono ?_
            rintro e w' ⟨rfl, rfl⟩
            go_wp2
            go_roundw
            case rel => exact ⟨i + 1, by omega, by go_num, hk⟩
            case measure => simp [intOf]; omega
        · have hx2 : (c.getD i 0 == 23) = false := beq_false_of_ne hx
          have hmt : Iso.mt c i = (i : Int) := by unfold Iso.mt; rw [if_neg (by rw [hs]; decide), if_neg hx]
          rw [hmt] at cm
          generalize c.getD i 0 = x at *
          clear hs hx hmt hil
          go_wp2_with (go_at_call 17; refine HT.out.mono ?_; rintro e w' ⟨rfl, rfl⟩)
          go_roundw
          case rel => exact ⟨i + 1, by omega, by go_num, hk⟩
          case measure => simp [intOf]; omega
    · have hne : ¬ ((i : Int) < (n0 : Int)) := by omega
      have HE := hide (KO.on HK3.out hk)
      go_wp2
      go_ret
      exact ⟨rfl, HE.out⟩
end Go.Proofs.Ytfdfoojagngnnaa
