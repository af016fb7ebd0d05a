/- OrderSteps: with all levels two more it is the same order, with all one more it is turned about. -/
import Derived.Test.YtanoifkegfalgaaWorks13
import Derived.Test.YtanoifkegfalgaaTwoMore
import Derived.Test.YtanoifkegfalgaaOc
namespace Go.Proofs.Ytanoifkegfalgaa
open Go.RowKit
set_option linter.unusedVariables false
set_option maxHeartbeats 1600000
set_option maxRecDepth 100000
theorem up_next (d : Int) (l : List Int) {k : Nat} (h : k < l.length) : (Od.up d l).take (k + 1) = (Od.up d l).take k ++ [if 0 ≤ l.getD k 0 then l.getD k 0 + d else l.getD k 0] := by
  rw [take_snoc _ _ (by rw [Od.up_len]; exact h), Od.up_at d l h]
theorem steps_facts {l : List Int} (h : ∀ i, i < l.length → -1 ≤ l.getD i 0 ∧ l.getD i 0 ≤ 125) : OA l (Od.ON l) 0 ∧ OA (Od.up 1 l) (Od.ON l).reverse 0 ∧ OA (Od.up 2 l) (Od.ON l) 0 := by
  have h0 : Od.Fo l := fun i hi => by have := h i hi; omega
  have h1 : Od.Fo (Od.up 1 l) := Od.up_Fo (by decide) fun i hi => by have := h i hi; omega
  have h2 : Od.Fo (Od.up 2 l) := Od.up_Fo (by decide) fun i hi => by have := h i hi; omega
  refine ⟨.inl ⟨h0, rfl, rfl⟩, .inl ⟨h1, ?_, rfl⟩, .inl ⟨h2, ?_, rfl⟩⟩
  · unfold Od.ON; rw [Od.one_turned h, List.map_reverse]
  · unfold Od.ON; rw [Od.two_same h]
theorem reverse_at (L : List Int) {i : Nat} (h : i < L.length) : L.reverse.getD (L.length - 1 - i) 0 = L.getD i 0 := by
  rw [Od.rev_at L (by omega), show L.length - 1 - (L.length - 1 - i) = i by omega]
theorem OrderSteps_walk (w : World) (a0 : Option Addr) (n0 cap0 : Nat) (l : List Int) (h0 : Row .i64 w a0 n0 cap0 l) (hf0 : ∀ x ∈ l, (Lit.int .i64 x).wf = true) (hs0 : n0 * 8 ≤ 140737488351232) :
    Calls Try.prog 8 #[.slice a0 n0 cap0] w fun e w' => e = .returned (.bool true) ∧ Below w.heap.size w w' := by
  have HW := hide (works13_any w)
  obtain ⟨ii, hii, hy0, hy1, hy2⟩ := info_parts infoInt
  have HII : Hid (Try.prog.info? 3 = some ii) := hii
  have HY0 := hide hy0
  have HY1 := hide hy1
  have HY2 := hide hy2
  have H0 := hide h0
  have HL := hide h0.len
  have hn2 : n0 ≤ 17592186044416 := by omega
  clear h0 hf0 hii hy0 hy1 hy2
  go_enter Try.func8, Try.ntmps8
  go_wp2_with fail
  refine HW.out.mono ?_
  rintro e w1 ⟨rfl, hk1⟩
  have K1 := hide hk1
  clear hk1 HW
  go_wp2
  go_loopw [3, 4, 6, 18] (fun s3 s4 s6 s18 W => ∃ (va vb : Value) (k : Nat), va = s3 ∧ vb = s4 ∧ s18 = .int .i64 (k : Int) ∧ k ≤ n0 ∧ Hid (∀ i, i < k → -1 ≤ l.getD i 0 ∧ l.getD i 0 ≤ 125) ∧ Hid (J2 3 w1 W va k ((Od.up 1 l).take k) vb k ((Od.up 2 l).take k))) (fun _ _ _ s18 _ => n0 - (intOf s18).toNat)
  case atStart => exact ⟨_, _, 0, rfl, rfl, rfl, Nat.zero_le _, hide (fun i hi => absurd hi (Nat.not_lt_zero _)), hide (J2.begin w1)⟩
  case round =>
    obtain ⟨va, vb, k, hva, hvb, rfl, hk, hall, hJ⟩ := hrel
    subst hva hvb
    by_cases hlt : k < n0
    · obtain ⟨b, off, rfl, hbl, hc⟩ := H0.out.cells (by omega)
      have hkl : k < l.length := by rw [HL.out]; exact hlt
      have ck : wr.cell? ⟨b, off + k, none⟩ = some (.int .i64 (l.getD k 0)) := (Below.cell (KO.on K1.out hJ.out.bel) (by exact hbl)).trans (hc k hkl)
      have hin : (k : Int) < (n0 : Int) := by omega
      have HU1 := hide (up_next 1 l hkl)
      have HU2 := hide (up_next 2 l hkl)
      have HX : Hid (∀ x, l.getD k 0 = x → (-1 ≤ x ∧ x ≤ 125) → ∀ i, i < k + 1 → -1 ≤ l.getD i 0 ∧ l.getD i 0 ≤ 125) := hide (fun x hx hr i hi => by
        by_cases e : i = k
        · subst e; rw [hx]; exact hr
        · exact hall.out i (by omega))
      clear hc hall
      generalize hx : l.getD k 0 = x at ck HU1 HU2
      have HX2 := hide (HX.out x hx)
      clear HX hx
      by_cases h1 : 125 < x
      · have HK := hide (KO.on K1.out hJ.out.bel)
        clear hJ HU1 HU2
        go_wp2
        go_ret
        exact ⟨rfl, HK.out⟩
      · by_cases h2 : x < -1
        · have HK := hide (KO.on K1.out hJ.out.bel)
          clear hJ HU1 HU2
          go_wp2
          go_ret
          exact ⟨rfl, HK.out⟩
        · have HX3 := hide (HX2.out ⟨by omega, by omega⟩)
          have hJo := hJ.out
          clear hJ HX2
          by_cases h3 : 0 ≤ x
          · rw [if_pos h3] at HU1 HU2
            go_wp2_with (first
              | (at_builtin; refine wpList_j2 (hJo.below (Below.alloc (Below.refl _ _) (Nat.le_refl _) _)) rfl (.tmp 30) (.tmp 33) 22 rfl ii _ Try.underlying22 HII.out HY0.out HY1.out HY2.out rfl rfl _ (x + 1) rfl (row_one _ _ rfl (x + 1)) (by omega) ?_; intro g1 c1 w2 hJ1; clear hJo)
              | (at_builtin; refine wpList_j2 (hJ1.symm.below (Below.alloc (Below.refl _ _) (Nat.le_refl _) _)) rfl (.tmp 35) (.tmp 38) 22 rfl ii _ Try.underlying22 HII.out HY0.out HY1.out HY2.out rfl rfl _ (x + 2) rfl (row_one _ _ rfl (x + 2)) (by omega) ?_; intro g2 c2 w3 hJ2; clear hJ1))
            have HJ := hide hJ2.symm
            clear hJ2
            rw [← HU1.out, ← HU2.out] at HJ
            go_wp2
            go_roundw
            case rel => exact ⟨_, _, k + 1, rfl, rfl, by go_num, by omega, HX3, HJ⟩
            case measure => simp [intOf]; omega
          · rw [if_neg h3] at HU1 HU2
            go_wp2_with (first
              | (at_builtin; refine wpList_j2 (hJo.below (Below.alloc (Below.refl _ _) (Nat.le_refl _) _)) rfl (.tmp 40) (.tmp 42) 22 rfl ii _ Try.underlying22 HII.out HY0.out HY1.out HY2.out rfl rfl _ x rfl (row_one _ _ rfl x) (by omega) ?_; intro g1 c1 w2 hJ1; clear hJo)
              | (at_builtin; refine wpList_j2 (hJ1.symm.below (Below.alloc (Below.refl _ _) (Nat.le_refl _) _)) rfl (.tmp 44) (.tmp 46) 22 rfl ii _ Try.underlying22 HII.out HY0.out HY1.out HY2.out rfl rfl _ x rfl (row_one _ _ rfl x) (by omega) ?_; intro g2 c2 w3 hJ2; clear hJ1))
            have HJ := hide hJ2.symm
            clear hJ2
            rw [← HU1.out, ← HU2.out] at HJ
            go_wp2
            go_roundw
            case rel => exact ⟨_, _, k + 1, rfl, rfl, by go_num, by omega, HX3, HJ⟩
            case measure => simp [intOf]; omega
    · obtain rfl : n0 = k := by omega
      have hne : ¬ (n0 : Int) < (n0 : Int) := by omega
      obtain ⟨f1, f2, f3⟩ := steps_facts (l := l) (fun i hi => hall.out i (by rw [HL.out] at hi; exact hi))
      have e1 : (Od.up 1 l).take n0 = Od.up 1 l := List.take_of_length_le (by rw [Od.up_len, HL.out]; exact Nat.le_refl _)
      have e2 : (Od.up 2 l).take n0 = Od.up 2 l := List.take_of_length_le (by rw [Od.up_len, HL.out]; exact Nat.le_refl _)
      have hJo := hJ.out
      rw [e1, e2] at hJo
      obtain ⟨a1, c1, e3, hr1⟩ := row_of_owns hJo.oa
      obtain ⟨a2, c2, e4, hr2⟩ := row_of_owns hJo.ob
      subst e3 e4
      have KR := hide (KO.on K1.out hJo.bel)
      generalize hLL : Od.ON l = L at f1 f2 f3
      have HA := hide (fun (w' : World) (hk : KO wr w') => order_any a0 n0 cap0 l w' (H0.out.below (KO.on KR.out hk)) hs0 L 0 f1)
      have HB := hide (fun (w' : World) (hk : KO wr w') => order_any a1 n0 c1 (Od.up 1 l) w' (hr1.below hk) hs0 L.reverse 0 f2)
      have HC := hide (fun (w' : World) (hk : KO wr w') => order_any a2 n0 c2 (Od.up 2 l) w' (hr2.below hk) hs0 L 0 f3)
      clear hall hJ f1 f2 f3 e1 e2 hJo hr1 hr2 hLL
      go_wp2_with fail
      refine (HA.out wr (KO.refl wr)).mono ?_
      rintro e w2 ⟨a3, c3, rfl, hr3, hk3⟩
      have K3 := hide hk3
      have R3 := hide hr3
      clear hr3 hk3 HA
      go_wp2_with fail
      refine (HB.out w2 K3.out).mono ?_
      rintro e w3 ⟨a4, c4, rfl, hr4, hk4⟩
      rw [List.length_reverse] at hr4 ⊢
      have K4 := hide hk4
      have R4 := hide hr4
      clear hr4 hk4 HB
      go_wp2_with fail
      refine (HC.out w3 (KO.on K3.out K4.out)).mono ?_
      rintro e w4 ⟨a5, c5, rfl, hr5, hk5⟩
      have K5 := hide hk5
      have HI := hide (fun (w' : World) (hk : KO w4 w') => ints_yes a3 a5 L.length c3 c5 L w' (R3.out.below (KO.on K4.out (KO.on hk5 hk))) (hr5.below hk))
      have R3b := hide (R3.out.below (KO.on K4.out hk5))
      have R4b := hide (R4.out.below hk5)
      clear hr5 hk5 HC R3 R4
      generalize hnl : L.length = nl at *
      have HNL := hide hnl
      clear hnl
      have hnm : nl ≤ 9223372036854775807 := by
        have h1 := R3b.out.le
        have h2 := R3b.out.max
        unfold maxLen at h2
        omega
      have HKW := hide (KO.on KR.out (KO.on K3.out (KO.on K4.out K5.out)))
      have hnb : ((nl : Int) != (nl : Int)) = false := by simp
      go_wp2
      go_loopw [13, 83] (fun s13 s83 W => ∃ i : Nat, s83 = .int .i64 (i : Int) ∧ i ≤ nl ∧ Hid (KO w4 W)) (fun _ s83 _ => nl - (intOf s83).toNat)
      case atStart => exact ⟨0, rfl, Nat.zero_le _, hide (KO.refl w4)⟩
      case round =>
        obtain ⟨i, rfl, hi, hkw⟩ := hrel
        by_cases hlt2 : i < nl
        · have hin : (i : Int) < (nl : Int) := by omega
          obtain ⟨j, hj⟩ : ∃ j : Nat, j = nl - 1 - i := ⟨_, rfl⟩
          have e1 : IntKind.i64.wrap ((nl : Int) - 1) = (nl : Int) - 1 := by rw [IntKind.wrap_i64]; omega
          have e2 : IntKind.i64.wrap ((nl : Int) - 1 - (i : Int)) = (j : Int) := by rw [IntKind.wrap_i64]; omega
          have e3 : (nl : Int) - 1 - (i : Int) = (j : Int) := by omega
          have hin2 : (j : Int) < (nl : Int) := by omega
          have hjn : j < nl := by omega
          obtain ⟨b3, o3, rfl, hb3, hc3⟩ := R3b.out.cells (by omega)
          obtain ⟨b4, o4, rfl, hb4, hc4⟩ := R4b.out.cells (by omega)
          have ca := (Below.cell hkw.out (by exact hb3)).trans (hc3 i (by rw [HNL.out]; exact hlt2))
          have cb := (Below.cell hkw.out (by exact hb4)).trans (hc4 j (by rw [List.length_reverse, HNL.out]; exact hjn))
          have hre := reverse_at L (i := i) (by rw [HNL.out]; exact hlt2)
          rw [HNL.out, ← hj] at hre
          rw [hre] at cb
          generalize L.getD i 0 = x at ca cb
          have hxx : (x != x) = false := by simp
          clear hre hj hc3 hc4
          go_wp2_with fail
          go_quiet (fail)
          go_wp2
          go_roundw
          case rel => exact ⟨i + 1, by go_num, by omega, hide (KO.on hkw.out (below_of_drewN ⟨_, rfl⟩))⟩
          case measure => simp [intOf]; omega
        · obtain rfl : nl = i := by omega
          have hne2 : ¬ (nl : Int) < (nl : Int) := by omega
          have HI2 := hide (HI.out wr hkw.out)
          have HK2 := hide (KO.on HKW.out hkw.out)
          clear HI hkw
          go_wp2_with fail
          refine HI2.out.mono ?_
          rintro e w6 ⟨rfl, hd6⟩
          have K6 := hide (below_of_drewN hd6)
          clear hd6 HI2
          go_wp2
          go_ret
          exact ⟨rfl, KO.on HK2.out K6.out⟩
end Go.Proofs.Ytanoifkegfalgaa
