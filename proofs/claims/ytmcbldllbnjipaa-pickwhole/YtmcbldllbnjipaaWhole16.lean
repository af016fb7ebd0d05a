/- PickWhole: all places are one run, if any is seen; none are none; of one level a range is one run. -/
import Derived.Test.YtmcbldllbnjipaaPw16
import Derived.Test.YtmcbldllbnjipaaWk16
namespace Go.Proofs.Ytmcbldllbnjipaa
open Go.RowKit
set_option linter.unusedVariables false
set_option maxHeartbeats 1600000
set_option maxRecDepth 100000
theorem PickWhole_walk (w : World) (a0 : Option Addr) (n0 cap0 : Nat) (l : List Int) (h0 : Row .i64 w a0 n0 cap0 l) (hf0 : ∀ x ∈ l, (Lit.int .i64 x).wf = true) (hs0 : n0 * 8 ≤ 140737488351232) (x : Int) (hx : (Lit.int .i64 x).wf = true) :
    Calls Try.prog 7 #[.slice a0 n0 cap0, .int .i64 x] w fun e w' => e = .returned (.bool true) ∧ Below w.heap.size w w' := by
  have HW := hide (works16_any w)
  have hl := h0.len
  by_cases hfo : Od.Fo l
  · obtain ⟨kk, hkk, ek'⟩ := place_at x (n0 + 1) (by omega) (by omega)
    have ek : wrap64 ((IntKind.u64.wrap x).tmod ((n0 : Int) + 1)) = (kk : Int) := by
      have := ek'
      rw [show ((n0 + 1 : Nat) : Int) = (n0 : Int) + 1 from by omega] at this
      exact this
    clear ek'
    obtain ⟨m, hm⟩ : ∃ m, (Od.ON l).length = m := ⟨_, rfl⟩
    have hmn : m ≤ n0 := by
      have := Od.K_le l
      rw [← hm, Od.ON_len, Od.OD_len]
      omega
    have hA1 : PRA l 0 (n0 : Int) (if m = 0 then [] else [(0, m)]) 0 := .inl ⟨hfo, ⟨by omega, by omega, by omega⟩, by rw [← hm, ← Pk.all_runs hfo, hl], rfl⟩
    have hA2 : PRA l (kk : Int) (kk : Int) [] 0 := .inl ⟨hfo, ⟨by omega, by omega, by omega⟩, (Pk.no_runs _ _ _).symm, rfl⟩
    obtain ⟨R3, hR3⟩ : ∃ R3, Pk.RU (Pk.qc (Od.ON l) 0 (kk : Int)) (Od.ON l).length = R3 := ⟨_, rfl⟩
    have hA3 : PRA l 0 (kk : Int) R3 0 := .inl ⟨hfo, ⟨by omega, by omega, by omega⟩, hR3.symm, rfl⟩
    have HFL : Hid (Pk.fm l n0 = true → R3.length ≤ 1) := hide (fun h => by
      rw [← hR3]
      exact Pk.flat_runs hfo (v := Pk.lm l n0) (fun i hi h2 => Pk.fm_all n0 h i (by omega) h2) 0 kk)
    have H1 := hide (fun (W : World) (hk : KO w W) => pruns_any a0 n0 cap0 l 0 n0 W (h0.below hk) hs0 _ _ hA1)
    have H2 := hide (fun (W : World) (hk : KO w W) => pruns_any a0 n0 cap0 l kk kk W (h0.below hk) hs0 _ _ hA2)
    have H3 := hide (fun (W : World) (hk : KO w W) => pruns_any a0 n0 cap0 l 0 kk W (h0.below hk) hs0 _ _ hA3)
    have HSC : Hid (Od.sc l n0 = m) := hide (by rw [← hl, Od.sc_OD, ← Od.ON_len, hm])
    have HL := hide hl
    have H0 := hide h0
    obtain ⟨N3, hN3⟩ : ∃ N3, R3.length = N3 := ⟨_, rfl⟩
    rw [hN3] at HFL H3
    simp only [List.length_nil] at H2
    have hcp := h0.le
    have hmx := h0.max
    unfold maxLen at hmx
    have heq := run_same2
    have hbd := pbuild_pair
    clear h0 hf0 hfo hx hl hm hA1 hA2 hA3 hR3 hN3
    obtain ⟨R1, hR1⟩ : ∃ R1 : List (Nat × Nat), (if m = 0 then [] else [(0, m)]) = R1 := ⟨_, rfl⟩
    have HR1 := hide hR1
    rw [hR1] at H1
    obtain ⟨N1, hN1⟩ : ∃ N1, R1.length = N1 := ⟨_, rfl⟩
    have HN1 := hide hN1
    rw [hN1] at H1
    clear hR1 hN1
    go_enter Try.func7, Try.ntmps7
    go_wp2_with fail
    refine HW.out.mono ?_
    rintro e w1 ⟨rfl, hk1⟩
    have K1 := hide hk1
    have H1a := hide (H1.out w1 hk1)
    clear hk1 HW H1
    go_wp2_with fail
    refine H1a.out.mono ?_
    rintro e w2 ⟨a2, c2, rfl, hp2, hk2⟩
    have K2 := hide (KO.on K1.out hk2)
    have H2a := hide (H2.out w2 K2.out)
    have P2 := hide hp2
    clear hp2 hk2 H1a H2
    go_wp2_with fail
    refine H2a.out.mono ?_
    rintro e w3 ⟨a3, c3, rfl, hp3, hk3⟩
    have K3 := hide (KO.on K2.out hk3)
    have P3 := hide (P2.out.below hk3)
    have H3a := hide (H3.out w3 K3.out)
    have hN1c := P2.out.le
    have hN1m := P2.out.max
    unfold maxLen at hN1m
    clear hp3 hk3 H2a H3 P2
    go_wp2
    go_loop [10, 11, 12, 48] (fun s10 s11 s12 s48 => ∃ i : Nat, s48 = .int .i64 (i : Int) ∧ i ≤ n0 ∧ s10 = .int .i64 (Od.sc l i : Int) ∧ s11 = .bool (Pk.fm l i) ∧ s12 = .int .i64 (Pk.lm l i)) (fun _ _ _ s48 => n0 - (intOf s48).toNat)
    case atStart => exact ⟨0, rfl, Nat.zero_le _, rfl, rfl, rfl⟩
    case round =>
      obtain ⟨i, rfl, hi, rfl, rfl, rfl⟩ := hrel
      by_cases hlt : i < n0
      · have hin : (i : Int) < (n0 : Int) := by omega
        obtain ⟨b, off, rfl, hb, hc⟩ := H0.out.cells (by omega)
        have c0 := (Below.cell K3.out (by exact hb)).trans (hc i (by rw [HL.out]; exact hlt))
        have hsc := Od.sc_le l i
        have hst : Hid (Od.sc l (i + 1) = if 0 ≤ l.getD i 0 then Od.sc l i + 1 else Od.sc l i) := hide (by rw [Od.sc])
        have hL1 := hide (Pk.lm_seen (l := l) (k := i))
        have hL2 := hide (Pk.lm_not (l := l) (k := i))
        have hF1 := hide (Pk.fm_seen (l := l) (k := i))
        have hF2 := hide (Pk.fm_not (l := l) (k := i))
        clear hc
        generalize l.getD i 0 = x0 at *
        generalize Od.sc l i = y at *
        generalize Pk.lm l i = v at *
        by_cases h1 : 0 ≤ x0
        · have hst2 : Hid (Od.sc l (i + 1) = y + 1) := hide (by rw [hst.out, if_pos h1])
          have hL3 := hide (hL1.out h1)
          have hF3 := hF1.out h1
          clear hst hL1 hL2 hF1 hF2
          cases hq : Pk.fm l i with
          | false =>
            rw [hq, Bool.false_and] at hF3
            have HF := hide hF3
            clear hF3 hq
            go_wp2
            go_round
            case rel => exact ⟨i + 1, by go_num, by omega, by rw [hst2.out]; go_num, by rw [HF.out], by rw [hL3.out]⟩
            case measure => simp [intOf]; omega
          | true =>
            rw [hq, Bool.true_and] at hF3
            clear hq
            by_cases h2 : v < 0
            · rw [decide_eq_true h2, Bool.true_or] at hF3
              have HF := hide hF3
              clear hF3
              go_wp2
              go_round
              case rel => exact ⟨i + 1, by go_num, by omega, by rw [hst2.out]; go_num, by rw [HF.out], by rw [hL3.out]⟩
              case measure => simp [intOf]; omega
            · rw [decide_eq_false h2, Bool.false_or] at hF3
              have HF := hide hF3
              clear hF3
              go_wp2
              go_round
              case rel => exact ⟨i + 1, by go_num, by omega, by rw [hst2.out]; go_num, by rw [HF.out], by rw [hL3.out]⟩
              case measure => simp [intOf]; omega
        · have hst2 : Hid (Od.sc l (i + 1) = y) := hide (by rw [hst.out, if_neg h1])
          have hL3 := hide (hL2.out h1)
          have hF3 := hide (hF2.out h1)
          clear hst hL1 hL2 hF1 hF2
          go_wp2
          go_round
          case rel => exact ⟨i + 1, by go_num, by omega, by rw [hst2.out], by rw [hF3.out], by rw [hL3.out]⟩
          case measure => simp [intOf]; omega
      · obtain rfl : n0 = i := by omega
        have hne : ¬ (n0 : Int) < (n0 : Int) := by omega
        rw [HSC.out]
        have hfl := HFL.out
        have H3b := hide H3a.out
        generalize Pk.fm l n0 = fl at *
        clear H3a
        by_cases hm0 : m = 0
        · subst hm0
          have hn1 := HN1.out
          rw [← HR1.out, if_pos rfl] at hn1
          simp only [List.length_nil] at hn1
          subst hn1
          go_wp2_with fail
          refine H3b.out.mono ?_
          rintro e w4 ⟨a4, c4, rfl, hp4, hk4⟩
          have K4 := hide (KO.on K3.out hk4)
          clear hp4 hk4 H3b
          cases fl with
          | true =>
            have h9 := hfl rfl
            have h9i : (N3 : Int) ≤ 1 := by omega
            go_wp2
            go_ret
            exact ⟨rfl, K4.out⟩
          | false =>
            go_wp2
            go_ret
            exact ⟨rfl, K4.out⟩
        · have hr1 := HR1.out
          rw [if_neg hm0] at hr1
          have hn1 := HN1.out
          rw [← hr1] at hn1
          simp only [List.length_cons, List.length_nil] at hn1
          obtain rfl : N1 = 1 := by omega
          have hp3 := P3.out
          rw [← hr1] at hp3
          obtain ⟨b, rfl, hb, hc⟩ := hp3.cells (by omega)
          have c0 : w3.cell? ⟨b, 0, none⟩ = some (.int .i64 0) := by have := (hc 0 (by omega)).1; simpa using this
          have c1 : w3.cell? ⟨b, 1, none⟩ = some (.int .i64 (m : Int)) := by have := (hc 0 (by omega)).2; simpa using this
          have hmp : (0 : Int) < (m : Int) := by omega
          have hmb : ((m : Int) == 0) = false := beq_eq_false_iff_ne.2 (by omega)
          clear hp3 hc hn1
          go_wp2_with fail
          refine H3b.out.mono ?_
          rintro e w4 ⟨a4, c4, rfl, hp4, hk4⟩
          have K4 := hide (KO.on K3.out hk4)
          clear hp4 hk4 H3b
          cases fl with
          | true =>
            have h9 := hfl rfl
            have h9i : (N3 : Int) ≤ 1 := by omega
            go_wp2
            go_ret
            exact ⟨rfl, K4.out⟩
          | false =>
            go_wp2
            go_ret
            exact ⟨rfl, K4.out⟩
  · have HR := hide (fun (W : World) (hk : KO w W) => pruns_any a0 n0 cap0 l 0 n0 W (h0.below hk) hs0 [] 2 (.inr (.inl ⟨hfo, rfl, rfl⟩)))
    simp only [List.length_nil] at HR
    clear h0 hf0 hfo hl
    go_enter Try.func7, Try.ntmps7
    go_wp2_with fail
    refine HW.out.mono ?_
    rintro e w1 ⟨rfl, hk1⟩
    have K1 := hide hk1
    have HR1 := hide (HR.out w1 hk1)
    clear hk1 HW HR
    go_wp2_with fail
    refine HR1.out.mono ?_
    rintro e w2 ⟨a2, c2, rfl, hp2, hk2⟩
    have K2 := hide (KO.on K1.out hk2)
    clear hp2 hk2 HR1
    go_wp2
    go_ret
    exact ⟨rfl, K2.out⟩
end Go.Proofs.Ytmcbldllbnjipaa
