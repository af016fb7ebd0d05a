/- OrderPermutes: an order has each place that is seen once; columns turn it about; runs, one behind the other, are it. -/
import Derived.Test.YtanoifkegfalgaaRu13
import Derived.Test.YtanoifkegfalgaaGrown
namespace Go.Proofs.Ytanoifkegfalgaa
open Go.RowKit
set_option linter.unusedVariables false
set_option maxHeartbeats 1600000
set_option maxRecDepth 100000
theorem flat_next13 (R : List (List Int)) {j : Nat} (h : j < R.length) : (R.take (j + 1)).flatten = (R.take j).flatten ++ R.getD j [] := by
  rw [List.take_succ_eq_append_getElem h, List.flatten_append]
  simp [List.getD, h]
theorem flat_le13 (R : List (List Int)) (j : Nat) : (R.take j).flatten.length ≤ R.flatten.length := by
  have h : R.flatten = (R.take j).flatten ++ (R.drop j).flatten := by rw [← List.flatten_append, List.take_append_drop]
  rw [h, List.length_append]
  omega
/-- What is known of each place. -/
theorem perm_at {l : List Int} (hf : Od.Fo l) {i : Nat} (hi : i < l.length) :
    (l.getD i 0 < 0 ∧ (Od.CO (Od.ON l) l.length (Od.ON l).length).getD i 0 = -1) ∨ (0 ≤ l.getD i 0 ∧ ∃ k : Nat, k < (Od.ON l).length ∧ (Od.CO (Od.ON l) l.length (Od.ON l).length).getD i 0 = (k : Int) ∧ (Od.ON l).getD k 0 = (i : Int)) := by
  rw [Od.CO_at hi]
  by_cases h : 0 ≤ l.getD i 0
  · obtain ⟨k, h1, h2, h3⟩ := Od.seen_col hf (Od.sn_of h hi)
    refine .inr ⟨h, k, by rw [Od.ON_len]; exact h1, h3, ?_⟩
    rw [Od.ON_at h1, h2]
  · refine .inl ⟨by omega, Od.unseen_col hf ?_⟩
    rw [← Bool.not_eq_true]
    exact fun q => h (Od.sn_at q).2
theorem perm_cols {l : List Int} (hf : Od.Fo l) (hn : l.length ≤ 4096) : CA (Od.ON l) (l.length : Int) (Od.CO (Od.ON l) l.length (Od.ON l).length) 0 :=
  .inr (.inr ⟨by omega, Od.ON_orderly hf, by rw [Int.toNat_natCast], rfl⟩)
theorem OrderPermutes_walk (w : World) (a0 : Option Addr) (n0 cap0 : Nat) (l : List Int) (h0 : Row .i64 w a0 n0 cap0 l) (hf0 : ∀ x ∈ l, (Lit.int .i64 x).wf = true) (hs0 : n0 * 8 ≤ 140737488351232) :
    Calls Try.prog 7 #[.slice a0 n0 cap0] w fun e w' => e = .returned (.bool true) ∧ Below w.heap.size w w' := by
  have HW := hide (works13_any w)
  obtain ⟨ii, hii, hy0, hy1, hy2⟩ := info_parts infoInt
  have HII : Hid (Try.prog.info? 3 = some ii) := hii
  have HY0 := hide hy0
  have HY1 := hide hy1
  have HY2 := hide hy2
  by_cases hbig : 4096 < n0
  · have hb1 : (4096 : Int) < (n0 : Int) := by omega
    clear h0 hf0
    go_enter Try.func7, Try.ntmps7
    go_wp2_with fail
    refine HW.out.mono ?_
    rintro e w1 ⟨rfl, hk1⟩
    have K1 := hide hk1
    clear hk1
    go_wp2
    go_ret
    exact ⟨rfl, K1.out⟩
  have hb1 : ¬ (4096 : Int) < (n0 : Int) := by omega
  by_cases hfo : Od.Fo l
  · obtain ⟨L, hL⟩ : ∃ L, Od.ON l = L := ⟨_, rfl⟩
    obtain ⟨R, hR⟩ : ∃ R, Od.RR l = R := ⟨_, rfl⟩
    obtain ⟨C, hC⟩ : ∃ C, Od.CO (Od.ON l) l.length (Od.ON l).length = C := ⟨_, rfl⟩
    have HO := hide (fun (w' : World) (hk : KO w w') => order_any a0 n0 cap0 l w' (h0.below hk) hs0 L 0 (.inl ⟨hfo, hL.symm, rfl⟩))
    have HR := hide (fun (w' : World) (hk : KO w w') => runs_any a0 n0 cap0 l w' (h0.below hk) (by omega) R 0 (.inl ⟨hfo, hR.symm, rfl⟩))
    have hCA : CA L (n0 : Int) C 0 := by
      have := perm_cols hfo (by rw [h0.len]; omega)
      rw [hC, hL, h0.len] at this
      exact this
    have HC := hide (fun (ao : Option Addr) (cap : Nat) (w' : World) (h : Row .i64 w' ao L.length cap L) => cols_any ao L.length cap n0 L w' h C 0 hCA)
    have HCL : Hid (C.length = n0) := hide (by rw [← hC, Od.CO_len, h0.len])
    have HAT : Hid (∀ i, i < n0 → (l.getD i 0 < 0 ∧ C.getD i 0 = -1) ∨ (0 ≤ l.getD i 0 ∧ ∃ k : Nat, k < L.length ∧ C.getD i 0 = (k : Int) ∧ L.getD k 0 = (i : Int))) := hide (fun i hi => by
      have := perm_at hfo (i := i) (by rw [h0.len]; exact hi)
      rw [hC, hL] at this
      exact this)
    have HSC : Hid (Od.sc l n0 = L.length) := hide (by rw [← h0.len, Od.sc_OD, ← hL, Od.ON_len])
    have HFL : Hid (R.flatten = L) := hide (by rw [← hR, ← hL]; exact Od.RR_flat l)
    have H0 := hide h0
    have hLn : L.length ≤ n0 := by rw [← HSC.out]; exact Od.sc_le l n0
    have HL0 := hide h0.len
    clear h0 hf0 hfo hL hR hC hCA hii hy0 hy1 hy2
    obtain ⟨m, hm⟩ : ∃ m, L.length = m := ⟨_, rfl⟩
    have HM := hide hm
    rw [hm] at HO HC HSC hLn
    rw [HCL.out] at HC
    simp only [hm] at HAT
    obtain ⟨N, hN⟩ : ∃ N, R.length = N := ⟨_, rfl⟩
    have HN := hide hN
    rw [hN] at HR
    clear hm hN
    go_enter Try.func7, Try.ntmps7
    go_wp2_with fail
    refine HW.out.mono ?_
    rintro e w1 ⟨rfl, hk1⟩
    have K1 := hide hk1
    have HO1 := hide (HO.out w1 hk1)
    clear hk1 HW HO
    go_wp2_with fail
    refine HO1.out.mono ?_
    rintro e w2 ⟨a2, c2, rfl, hr2, hk2⟩
    have K2 := hide (KO.on K1.out hk2)
    have R2 := hide hr2
    have HR2 := hide (HR.out w2 (KO.on K1.out hk2))
    clear hr2 hk2 HO1 HR
    go_wp2_with fail
    refine HR2.out.mono ?_
    rintro e w3 ⟨a3, c3, rfl, hr3, hk3⟩
    have K3 := hide (KO.on K2.out hk3)
    have R3 := hide hr3
    have HC3 := hide (HC.out a2 c2 w3 (R2.out.below hk3))
    have R23 := hide (R2.out.below hk3)
    clear hr3 hk3 HR2 HC R2
    go_wp2_with fail
    refine HC3.out.mono ?_
    rintro e w4 ⟨a4, c4, rfl, hr4, hk4⟩
    have K4 := hide (KO.on K3.out hk4)
    have R4 := hide hr4
    have R24 := hide (R23.out.below hk4)
    have R34 := hide (R3.out.below hk4)
    have hnn : ((n0 : Int) != (n0 : Int)) = false := by simp
    clear hr4 hk4 HC3 R23 R3
    go_wp2
    go_loopw [9, 10, 11, 65] (fun s9 s10 s11 s65 W => ∃ i : Nat, s65 = .int .i64 (i : Int) ∧ i ≤ n0 ∧ s9 = .int .i64 (Od.sc l i : Int) ∧ w4 = W) (fun _ _ _ s65 _ => n0 - (intOf s65).toNat)
    case atStart => exact ⟨0, rfl, Nat.zero_le _, rfl, rfl⟩
    case round =>
      obtain ⟨i, rfl, hi, rfl, rfl⟩ := hrel
      by_cases hlt : i < n0
      · have hin : (i : Int) < (n0 : Int) := by omega
        obtain ⟨b0, o0, e0, hb0, hc0⟩ := H0.out.cells (by omega)
        subst e0
        have g0 := (Below.cell K4.out (by exact hb0)).trans (hc0 i (by rw [HL0.out]; exact hlt))
        obtain ⟨b4, o4, e4, hb4, hc4⟩ := R4.out.cells (by omega)
        subst e4
        have g4 := hc4 i (by rw [HCL.out]; exact hlt)
        have hsc := Od.sc_le l i
        have hst : Hid (Od.sc l (i + 1) = if 0 ≤ l.getD i 0 then Od.sc l i + 1 else Od.sc l i) := hide (by rw [Od.sc])
        have hat := HAT.out i hlt
        clear hc0 hc4
        generalize Od.sc l i = y at *
        generalize l.getD i 0 = x at g0 hst hat
        generalize C.getD i 0 = z at g4 hat
        rcases hat with ⟨h1, h2⟩ | ⟨h1, k, h2, h3, h4⟩
        · subst h2
          have hst2 : Hid (Od.sc l (i + 1) = y) := hide (by rw [hst.out, if_neg (by omega)])
          clear hst
          go_wp2
          go_roundw
          case rel => exact ⟨i + 1, by go_num, by omega, by rw [hst2.out], by first | rfl | trivial⟩
          case measure => simp [intOf]; omega
        · subst h3
          have hst2 : Hid (Od.sc l (i + 1) = y + 1) := hide (by rw [hst.out, if_pos h1])
          have hx0 : ¬ x < 0 := by omega
          obtain ⟨b2, o2, e2, hb2, hc2⟩ := R24.out.cells (by omega)
          subst e2
          have g2 := hc2 k (by rw [HM.out]; exact h2)
          rw [h4] at g2
          have hk1 : (k : Int) < (m : Int) := by omega
          have hk0 : ¬ (k : Int) < 0 := by omega
          have hk2 : ¬ (m : Int) ≤ (k : Int) := by omega
          have hii2 : ((i : Int) != (i : Int)) = false := by simp
          clear hst hc2 h4
          go_wp2
          go_roundw
          case rel => exact ⟨i + 1, by go_num, by omega, by rw [hst2.out]; go_num, by first | rfl | trivial⟩
          case measure => simp [intOf]; omega
      · obtain rfl : n0 = i := by omega
        have hne : ¬ (n0 : Int) < (n0 : Int) := by omega
        rw [HSC.out]
        have hNc := R34.out.le
        have hNm := R34.out.max
        rw [HN.out] at hNc
        unfold maxLen at hNm
        go_wp2
        go_loopw [12, 14, 107] (fun s12 s14 s107 W => ∃ (va : Value) (j : Nat), va = s12 ∧ s107 = .int .i64 (j : Int) ∧ j ≤ N ∧ Hid (RG w4 (R.take j).flatten (R.take j).flatten.length va W)) (fun _ _ s107 _ => N - (intOf s107).toNat)
        case atStart => exact ⟨_, 0, rfl, rfl, Nat.zero_le _, hide ⟨World.ownsRow_nil _ _ _ _, KO.refl w4⟩⟩
        case round =>
          obtain ⟨va, j, hva, rfl, hj, hmm⟩ := hrel
          subst hva
          by_cases hlt2 : j < N
          · have hin2 : (j : Int) < (N : Int) := by omega
            obtain ⟨b3, o3, x3, y3, e3, hb3, c3j, r3⟩ := (R34.out.below hmm.out.bel).at' j (by rw [HN.out]; exact hlt2)
            subst e3
            have hfn := flat_next13 R (j := j) (by rw [HN.out]; exact hlt2)
            have hfl := flat_le13 R (j + 1)
            rw [HFL.out, HM.out, hfn, List.length_append] at hfl
            have HFN := hide hfn
            have HM2 := hide hmm.out
            have R3J := hide r3
            obtain ⟨a6, c6, hva, _⟩ := owns_form hmm.out.own
            subst hva
            clear hmm hfn r3
            generalize (R.take j).flatten = Y at *
            generalize R.getD j [] = Q at *
            have HLQ := hide (show (Y ++ Q).length = Y.length + Q.length from List.length_append)
            generalize hy : Y.length = ky at *
            generalize hq : Q.length = kq at *
            have hbase := HM2.out.bel.size
            go_wp2_with (at_builtin; refine wpList_append_row _ rfl (.tmp 111) (.tmp 112) 22 rfl w4.heap.size 3 ii (.int .i64 0) 8 Try.underlying22 HII.out HY0.out HY1.out HY2.out rfl _ ky _ rfl HM2.out.own .i64 _ kq y3 Q rfl R3J.out (by omega) (by omega) hbase ?_; intro v7 w7 ho7 hb7)
            have HM7 : Hid (RG w4 (R.take (j + 1)).flatten (R.take (j + 1)).flatten.length v7 w7) := hide (by
              rw [HFN.out, HLQ.out]
              exact ⟨by rw [List.map_append]; exact ho7, Below.trans HM2.out.bel hb7⟩)
            clear ho7 hb7 HM2
            go_wp2
            go_roundw
            case rel => exact ⟨_, j + 1, rfl, by go_num, by omega, HM7⟩
            case measure => simp [intOf]; omega
          · obtain rfl : N = j := by omega
            have hne2 : ¬ (N : Int) < (N : Int) := by omega
            have hall : (R.take N).flatten = L := by rw [← HN.out, List.take_length, HFL.out]
            have hmo := hmm.out
            rw [hall, HM.out] at hmo
            obtain ⟨a6, c6, hva, hr6⟩ := row_of_owns hmo.own
            subst hva
            have HI := hide (ints_yes a6 a2 m c6 c2 L wr hr6 (R24.out.below hmo.bel))
            have KF := hide (KO.on K4.out hmo.bel)
            have hmm2 : ((m : Int) == (m : Int)) = true := by simp
            clear hmm hall hmo hr6
            go_wp2_with fail
            refine HI.out.mono ?_
            rintro e w8 ⟨rfl, hd8⟩
            have K8 := hide (below_of_drewN hd8)
            clear hd8 HI
            go_wp2
            go_ret
            exact ⟨rfl, KO.on KF.out K8.out⟩
  · have HO := hide (fun (w' : World) (hk : KO w w') => order_any a0 n0 cap0 l w' (h0.below hk) hs0 [] 2 (.inr ⟨hfo, rfl, rfl⟩))
    have HR := hide (fun (w' : World) (hk : KO w w') => runs_any a0 n0 cap0 l w' (h0.below hk) (by omega) [] 2 (.inr ⟨hfo, rfl, rfl⟩))
    clear h0 hf0 hfo hii hy0 hy1 hy2
    simp only [List.length_nil] at HO HR
    go_enter Try.func7, Try.ntmps7
    go_wp2_with fail
    refine HW.out.mono ?_
    rintro e w1 ⟨rfl, hk1⟩
    have K1 := hide hk1
    have HO1 := hide (HO.out w1 hk1)
    clear hk1 HW HO
    go_wp2_with fail
    refine HO1.out.mono ?_
    rintro e w2 ⟨a2, c2, rfl, hr2, hk2⟩
    have K2 := hide (KO.on K1.out hk2)
    have HR2 := hide (HR.out w2 (KO.on K1.out hk2))
    clear hr2 hk2 HO1 HR
    go_wp2_with fail
    refine HR2.out.mono ?_
    rintro e w3 ⟨a3, c3, rfl, hr3, hk3⟩
    have K3 := hide (KO.on K2.out hk3)
    clear hr3 hk3 HR2
    go_wp2
    go_ret
    exact ⟨rfl, K3.out⟩
end Go.Proofs.Ytanoifkegfalgaa
