/- Rules 4 and 5: separators, terminators. -/
import Derived.Test.YtkajiagflcflpaaWb
namespace Go.Proofs.Ytkajiagflcflpaa
open Go.RowKit
set_option linter.unusedVariables false
set_option maxHeartbeats 1000000
set_option maxRecDepth 100000
theorem pv4 (s : Int) (t : List Int) (k : Nat) : We.pv 4 s t (k + 1) = if We.pv 4 s t k = t.getD (k + 1) 0 ∧ ((t.getD k 0 = 5 ∧ t.getD (k + 1) 0 = 4) ∨ (t.getD k 0 = 8 ∧ (t.getD (k + 1) 0 = 4 ∨ t.getD (k + 1) 0 = 7))) then t.getD (k + 1) 0 else t.getD k 0 := rfl
theorem jn_yes {x p y : Int} (h : p = y) (hj : jn x p = true) : p = y ∧ ((x = 5 ∧ y = 4) ∨ (x = 8 ∧ (y = 4 ∨ y = 7))) := by
  subst h
  simp only [jn, Bool.or_eq_true, Bool.and_eq_true, beq_iff_eq] at hj
  omega
theorem jn_no {x p y : Int} (h : ¬ (p = y ∧ jn x p = true)) : ¬ (p = y ∧ ((x = 5 ∧ y = 4) ∨ (x = 8 ∧ (y = 4 ∨ y = 7)))) := by
  rintro ⟨rfl, h2⟩
  refine h ⟨rfl, ?_⟩
  simp only [jn, Bool.or_eq_true, Bool.and_eq_true, beq_iff_eq]
  omega
theorem separators_any (base g n cap : Nat) (s : Int) (hs : We.Side s) (zs : List Int) (w0 w : World) (h : OW base g n cap zs w0 w) (hn : n ≤ 17592186044416) :
    Calls Try.prog 22 #[.slice (some ⟨g, 0, none⟩) n cap, .int .i64 s] w fun e w' => e = .returned (.tuple #[]) ∧ OW base g n cap (We.R 4 s zs) w0 w' := by
  have HL := hide h.len
  have H0 := hide (show OW base g n cap (We.P 4 s zs 1) w0 w from by rw [We.P_same (We.four_first hs), We.P_zero]; exact h)
  have HE := hide (fun (k : Nat) (hk : n ≤ k + 1) => (show We.P 4 s zs k = We.R 4 s zs from by
    have hl := HL.out
    rw [← We.P_end (show zs.length ≤ k + 1 by omega)]
    exact (We.P_same (We.four_last (by omega))).symm))
  clear h
  go_enter Try.func22, Try.ntmps22
  go_wp2
  go_loopw [4] (fun v wr => ∃ k : Nat, v = .int .i64 ((k : Int) + 1) ∧ (k = 0 ∨ k + 2 ≤ n) ∧ Hid (OW base g n cap (We.P 4 s zs (k + 1)) w0 wr)) (fun v _ => n - (intOf v).toNat)
  case atStart => exact ⟨0, rfl, .inl rfl, H0⟩
  case round =>
    obtain ⟨k, rfl, hk, hO⟩ := hrel
    by_cases hlt : k + 2 < n
    · have hin : (k : Int) + 1 < (n : Int) - 1 := by omega
      have hl := HL.out
      have hb1 : (k : Int) < (n : Int) := by omega
      have hb2 : ((k : Int) + 1) < (n : Int) := by omega
      have hb3 : ((k : Int) + 1 + 1) < (n : Int) := by omega
      have c1 := hO.out.cell (show k < n by omega)
      have c2 := hO.out.cell (show k + 1 < n by omega)
      have c3 := hO.out.cell (show k + 1 + 1 < n by omega)
      have hfz := hO.out.own.frozenAt (k + 1)
      rw [We.P_last (by omega)] at c1
      rw [We.P_here (by omega) (by omega)] at c2 c3
      have HP := hide (pv4 s zs (k + 1))
      have HN := hide (fun (nq : Nat) (y : Int) => (hO.out.drewN nq).next (y := y) (show k + 1 < zs.length by omega))
      have HT := hide (fun (nq : Nat) => (hO.out.drewN nq).stay)
      obtain ⟨p, hp⟩ : ∃ p, We.pv 4 s zs (k + 1) = p := ⟨_, rfl⟩
      rw [hp] at HP c1
      obtain ⟨x, hx⟩ : ∃ x, zs.getD (k + 1) 0 = x := ⟨_, rfl⟩
      rw [hx] at HP HT c2
      obtain ⟨y, hy⟩ : ∃ y, zs.getD (k + 1 + 1) 0 = y := ⟨_, rfl⟩
      rw [hy] at HP c3
      have HJ := hide (fun w' => joins_any x p w')
      clear hO hp hx hy hl
      by_cases hj : jn x p = true
      · rw [hj] at HJ
        by_cases hpy : p = y
        · have hP := HP.out
          rw [if_pos (jn_yes hpy hj), ← hpy] at hP
          have HS := hide (fun nq => HN.out nq _ hP)
          have hE : (p == y) = true := beq_iff_eq.2 hpy
          clear hP HP HN HT hj hpy
          go_wp2_with fail
          go_quiet (first | (go_at_call 31; refine Calls.quiet_of_same ((HJ.out _).mono fun _ _ ⟨he, hm⟩ => ⟨he, hm.symm⟩)))
          go_wp2
          go_roundw
          case rel => exact ⟨k + 1, by go_num, by omega, hide (HS.out _)⟩
          case measure => simp [intOf]; omega
        · have hP := HP.out
          rw [if_neg (jn_no (fun h => hpy h.1))] at hP
          have HS := hide (fun nq => HT.out nq hP)
          have hE : (p == y) = false := beq_false_of_ne hpy
          clear hP HP HN HT hj hpy
          go_wp2_with fail
          go_quiet (first | (go_at_call 31; refine Calls.quiet_of_same ((HJ.out _).mono fun _ _ ⟨he, hm⟩ => ⟨he, hm.symm⟩)))
          go_wp2
          go_roundw
          case rel => exact ⟨k + 1, by go_num, by omega, hide (HS.out _)⟩
          case measure => simp [intOf]; omega
      · have hP := HP.out
        rw [if_neg (jn_no (fun h => hj h.2))] at hP
        have HS := hide (fun nq => HT.out nq hP)
        rw [Bool.not_eq_true] at hj
        rw [hj] at HJ
        clear hP HP HN HT hj
        go_wp2_with fail
        go_quiet (first | (go_at_call 31; refine Calls.quiet_of_same ((HJ.out _).mono fun _ _ ⟨he, hm⟩ => ⟨he, hm.symm⟩)))
        go_wp2
        go_roundw
        case rel => exact ⟨k + 1, by go_num, by omega, hide (HS.out _)⟩
        case measure => simp [intOf]; omega
    · have hne : ¬ (k : Int) + 1 < (n : Int) - 1 := by omega
      rw [HE.out (k + 1) (by omega)] at hO
      clear hlt
      go_wp2
      go_end0
      exact ⟨rfl, hO.out⟩
/-- What stands about a stretch, as the walk asks. -/
theorem terminators_any (base g n cap : Nat) (s : Int) (zs : List Int) (w0 w : World) (h : OW base g n cap zs w0 w) (hn : n ≤ 17592186044416) :
    Calls Try.prog 23 #[.slice (some ⟨g, 0, none⟩) n cap, .int .i64 s] w fun e w' => e = .returned (.tuple #[]) ∧ OW base g n cap (We.R 5 s zs) w0 w' := by
  obtain ⟨ii, hii, hy0, hy1, hy2⟩ := info_parts infoInt
  have HII : Hid (Try.prog.info? 3 = some ii) := hii
  have HL := hide h.len
  have hcap : n ≤ cap := h.row.le
  have H0 := hide (show OW base g n cap (We.P 5 s zs 0) w0 w from by rw [We.P_zero]; exact h)
  have HE := hide (show We.P 5 s zs n = We.R 5 s zs from We.P_end (by rw [h.len]; exact Nat.le_refl _))
  clear h hii hy0 hy1 hy2
  go_enter Try.func23, Try.ntmps23
  go_wp2
  go_loopw [4] (fun v wr => ∃ f : Nat, v = .int .i64 (f : Int) ∧ f ≤ n ∧ Hid (We.Edge zs f) ∧ Hid (OW base g n cap (We.P 5 s zs f) w0 wr)) (fun v _ => n - (intOf v).toNat)
  case atStart => exact ⟨0, rfl, Nat.zero_le _, hide (We.edge_zero zs), H0⟩
  case round =>
    obtain ⟨f, rfl, hf, hE, hO⟩ := hrel
    by_cases hlt : f < n
    · have hin : (f : Int) < (n : Int) := by omega
      have HST := hide (stretch_any (some ⟨g, 0, none⟩) n cap f (We.P 5 s zs f) wr hO.out.row hlt hn)
      go_wp2_with fail
      refine HST.out.mono ?_
      rintro e w1 ⟨e1, rfl, hS, nq, rfl⟩
      have hl := HL.out
      have hS' : We.Str zs f e1 := by
        have hle := hS.le
        rw [We.P_len] at hle
        refine ⟨hS.lt, hle, fun i h1 h2 => ?_, fun h1 => ?_⟩
        · have := hS.all i h1 h2
          rw [We.P_here (by omega) h1, We.P_here (by omega) (Nat.le_refl _)] at this
          exact this
        · have h3 := hS.lt
          have := hS.out (by rw [We.P_len]; exact h1)
          rw [We.P_here h1 (by omega), We.P_here (by omega) (Nat.le_refl _)] at this
          exact this
      have he1 := hS'.lt
      have he2 : e1 ≤ n := by have := hS'.le; omega
      have HSS := hide hS'
      have hO2 := hide (hO.out.drewN nq)
      clear hO hS hS' HST
      generalize wr.drewN nq = w1 at *
      have co := hO2.out.cell hlt
      rw [We.P_here (by omega) (Nat.le_refl _)] at co
      have HED := hide (We.edge_next HSS.out)
      have hin2 : (e1 : Int) ≤ (n : Int) := by omega
      by_cases h6 : zs.getD f 0 = 6
      · rw [h6] at co
        have hA : ∃ A : Bool, (A = true ↔ (0 < f ∧ zs.getD (f - 1) 0 = 4)) ∧ Calls Try.prog 33 #[.slice (some ⟨g, 0, none⟩) n cap, .int .i64 ((f : Int) - 1), .int .i64 4] w1 fun e w' => e = .returned (.bool A) ∧ w1 = w' := by
          cases f with
          | zero => exact ⟨false, by simp, has_neg (some ⟨g, 0, none⟩) n cap 4 w1⟩
          | succ f =>
            have := has_in (some ⟨g, 0, none⟩) n cap f 4 (We.P 5 s zs (f + 1)) w1 hO2.out.row (by omega)
            rw [We.P_last (by omega), We.five_prev hE.out (by omega) h6] at this
            refine ⟨zs.getD f 0 == 4, by simp, ?_⟩
            rw [show ((f + 1 : Nat) : Int) - 1 = (f : Int) by omega]
            exact this
        obtain ⟨A, hA1, hA2⟩ := hA
        have hB : ∃ B : Bool, (B = true ↔ zs.getD e1 0 = 4) ∧ Calls Try.prog 33 #[.slice (some ⟨g, 0, none⟩) n cap, .int .i64 (e1 : Int), .int .i64 4] w1 fun e w' => e = .returned (.bool B) ∧ w1 = w' := by
          by_cases hen : e1 < n
          · have := has_in (some ⟨g, 0, none⟩) n cap e1 4 (We.P 5 s zs f) w1 hO2.out.row hen
            rw [We.P_here (by omega) (by omega)] at this
            exact ⟨zs.getD e1 0 == 4, by simp, this⟩
          · exact ⟨false, by rw [We.getD_out (by omega)]; simp, has_out (some ⟨g, 0, none⟩) n cap e1 4 w1 (by omega)⟩
        obtain ⟨B, hB1, hB2⟩ := hB
        have HA2 := hide hA2
        have HB2 := hide hB2
        clear hA2 hB2 hl
        by_cases hAB : A = true ∨ B = true
        · have hH : We.Hit zs f e1 := ⟨h6, by rw [← hA1, ← hB1]; exact hAB⟩
          have HF := hide (fill_any base g n cap (cap - f) f (e1 - f) 4 (We.P 5 s zs f) w0 w1 hO2.out (by omega) hn)
          rw [← We.P_fill HSS.out hE.out hH] at HF
          have hsl := fun w' => run_mid Try.underlying22 HII.out cellsInt (some ⟨g, 0, none⟩) n cap f e1 (by omega) (by omega) w'
          have htl : tl (some ⟨g, 0, none⟩) cap f = some ⟨g, f, none⟩ := by
            unfold tl
            rw [if_neg (by omega)]
            simp only [Option.map_some, Option.some.injEq]
            unfold Addr.add
            split <;> simp_all
          rw [htl] at hsl
          obtain ⟨m, hm⟩ : ∃ m, e1 - f = m := ⟨_, rfl⟩
          obtain ⟨c2, hc2⟩ : ∃ c2, cap - f = c2 := ⟨_, rfl⟩
          rw [hm, hc2] at HF hsl
          clear hA1 hB1 h6 hH htl hm hc2 hO2 HSS
          cases A with
          | true =>
            clear HB2 hAB
            go_wp2_with fail
            refine HA2.out.mono ?_
            rintro e w2 ⟨rfl, rfl⟩
            go_wp2_with fail
            refine HF.out.mono ?_
            rintro e w2 ⟨rfl, hO3⟩
            have HM := hide hO3
            clear hO3 HF hsl HA2
            go_wp2
            go_roundw
            case rel => exact ⟨e1, by go_num, by omega, HED, HM⟩
            case measure => simp [intOf]; omega
          | false =>
            obtain rfl : B = true := by simpa using hAB
            clear hAB
            go_wp2_with fail
            refine HA2.out.mono ?_
            rintro e w2 ⟨rfl, rfl⟩
            go_wp2_with fail
            refine HB2.out.mono ?_
            rintro e w2 ⟨rfl, rfl⟩
            go_wp2_with fail
            refine HF.out.mono ?_
            rintro e w2 ⟨rfl, hO3⟩
            have HM := hide hO3
            clear hO3 HF hsl HA2 HB2
            go_wp2
            go_roundw
            case rel => exact ⟨e1, by go_num, by omega, HED, HM⟩
            case measure => simp [intOf]; omega
        · have hH : ¬ We.Hit zs f e1 := fun h => hAB (by rw [hA1, hB1]; exact h.2)
          have HM := hide (show OW base g n cap (We.P 5 s zs e1) w0 w1 from by rw [We.P_miss HSS.out hE.out hH]; exact hO2.out)
          have hA0 : A = false := Bool.eq_false_iff.2 (fun h => hAB (.inl h))
          have hB0 : B = false := Bool.eq_false_iff.2 (fun h => hAB (.inr h))
          clear hA1 hB1 h6 hH hO2 HSS hAB
          subst hA0 hB0
          go_wp2_with fail
          refine HA2.out.mono ?_
          rintro e w2 ⟨rfl, rfl⟩
          go_wp2_with fail
          refine HB2.out.mono ?_
          rintro e w2 ⟨rfl, rfl⟩
          clear HA2 HB2
          go_wp2
          go_roundw
          case rel => exact ⟨e1, by go_num, by omega, HED, HM⟩
          case measure => simp [intOf]; omega
      · have hH : ¬ We.Hit zs f e1 := fun h => h6 h.1
        have HM := hide (show OW base g n cap (We.P 5 s zs e1) w0 w1 from by rw [We.P_miss HSS.out hE.out hH]; exact hO2.out)
        have e6 : (zs.getD f 0 == 6) = false := beq_false_of_ne h6
        generalize zs.getD f 0 = x at *
        clear hH h6 hO2 HSS
        go_wp2
        go_roundw
        case rel => exact ⟨e1, by go_num, by omega, HED, HM⟩
        case measure => simp [intOf]; omega
    · obtain rfl : f = n := by omega
      have hne : ¬ ((f : Int) < (f : Int)) := by omega
      rw [HE.out] at hO
      clear hlt
      go_wp2
      go_end0
      exact ⟨rfl, hO.out⟩
end Go.Proofs.Ytkajiagflcflpaa
