/- Levels; works: the chapter's examples. -/
import Derived.Test.YtbpjacalnipkgaaNr
namespace Go.Proofs.Ytbpjacalnipkgaa
open Go.RowKit
set_option linter.unusedVariables false
set_option maxHeartbeats 1000000
set_option maxRecDepth 100000
theorem levels_bad (ao : Option Addr) (n cap : Nat) (lv : Int) (w : World) (hb : ¬ Ne.Lev lv) :
    Calls Try.prog 13 #[.slice ao n cap, .int .i64 lv] w fun e w' => e = .returned (.tuple #[.slice none 0 0, .int .i64 2]) ∧ w = w' := by
  have HL := hide (fun w' => isLevel_any lv w')
  rw [decide_eq_false hb] at HL
  clear hb
  go_enter Try.func13, Try.ntmps13
  go_wp2_with fail
  refine (HL.out _).mono ?_
  rintro e w' ⟨rfl, rfl⟩
  go_wp2
  go_ret2
  exact ⟨rfl, rfl⟩
theorem levels_go (ao : Option Addr) (n cap : Nat) (lv : Int) (t : List Int) (w : World) (h : Row .i64 w ao n cap t) (hf : WF t) (hn : n * 8 ≤ 140737488351232) (hg : Ne.Lev lv) (L : List Int) (E : Int) (hA : (¬ Ne.Sided t ∧ L = [] ∧ E = 50) ∨ (Ne.Sided t ∧ L = Ne.LS t lv ∧ E = 0)) :
    Calls Try.prog 13 #[.slice ao n cap, .int .i64 lv] w fun e w' => ∃ a1 c1, e = .returned (.tuple #[.slice a1 L.length c1, .int .i64 E]) ∧ Row .i64 w' a1 L.length c1 L ∧ KO w w' := by
  have HL := hide (fun w' => isLevel_any lv w')
  rw [decide_eq_true hg] at HL
  have hn2 : n ≤ 17592186044416 := by omega
  have HM := hide (sides_any w)
  have H := hide h
  have HLEN := hide h.len
  have HF := hide hf
  have HNN := hide hn
  have HG := hide hg
  have HA := hide hA
  obtain ⟨cur, hcl, hmk⟩ := made_ints n hn
  have HCL := hide hcl
  have HMK := hide hmk
  clear hg h hn hf hcl hmk hA
  go_enter Try.func13, Try.ntmps13
  go_wp2_with fail
  refine (HL.out _).mono ?_
  rintro e w' ⟨rfl, rfl⟩
  go_wp2_with fail
  refine HM.out.mono ?_
  rintro e w1 ⟨rfl, hm, hk⟩
  have HSM := hide hm
  have HK := hide hk
  clear hm hk HM HL
  have hmk := HMK.out w1
  have HR1 := hide (H.out.below HK.out)
  have HO0 : Hid (OW w1.heap.size w1.heap.size n n (Ne.LL t lv 0) w1 (w1.alloc (.cells cur 3))) := hide ⟨by
    rw [Ne.LL_zero, HLEN.out]
    exact owns_block (cur := cur) (World.alloc_heap_new w1 _) HCL.out (by simp) (by unfold maxLen; have := HNN.out; omega) (Nat.le_refl _), (Below.refl _ _).alloc (Nat.le_refl _) _⟩
  go_wp2
  go_loopw [19] (fun v wr => ∃ j : Nat, v = .int .i64 (j : Int) ∧ j ≤ n ∧ Hid (∀ i, i < j → Ne.sd (t.getD i 0) ≠ 0) ∧ Hid (OW w1.heap.size w1.heap.size n n (Ne.LL t lv j) w1 wr)) (fun v _ => n - (intOf v).toNat)
  case atStart => exact ⟨0, rfl, Nat.zero_le _, hide (fun i hi => by omega), HO0⟩
  case round =>
    obtain ⟨j, rfl, hj, hall, hW⟩ := hrel
    by_cases hlt : j < n
    · have HTr := hide (HR1.out.below hW.out.bel)
      obtain ⟨b, off, rfl, hbl, hc⟩ := HTr.out.cells (by omega)
      have ck := hc j (by rw [HLEN.out]; exact hlt)
      have hin : (j : Int) < (n : Int) := by omega
      have HH := hide (has_any w.heap.size (t.getD j 0) (HF.out.at j) wr (HSM.out.below hW.out.bel))
      have HM := hide (meas_n0 n j hlt)
      have co := hW.out.cell hlt
      have fo := hW.out.own.frozenAt j
      generalize (Ne.LL t lv j).getD j 0 = old at co
      by_cases hs : Ne.sd (t.getD j 0) = 0
      · have hb : (Ne.sd (t.getD j 0) != 0) = false := by rw [hs]; rfl
        rw [hb] at HH
        have HE := hide (show L = [] ∧ E = 50 from by
          rcases HA.out with ⟨_, h1, h2⟩ | ⟨h1, _⟩
          · exact ⟨h1, h2⟩
          · exact absurd hs (h1 j (by rw [HLEN.out]; exact hlt)))
        have HKW := hide (KO.on HK.out hW.out.bel)
        clear hb hs hc hbl hall
        generalize t.getD j 0 = x at *
        go_wp2_with (go_at_call 19; refine HH.out.mono ?_; rintro e w' ⟨rfl, rfl⟩)
        obtain ⟨rfl, rfl⟩ := HE.out
        go_ret2
        exact ⟨none, 0, rfl, row_nil _ _, HKW.out⟩
      · have hb : (Ne.sd (t.getD j 0) != 0) = true := bne_iff_ne.2 hs
        rw [hb] at HH
        have HA2 := hide (show ∀ i, i < j + 1 → Ne.sd (t.getD i 0) ≠ 0 from fun i hi => by
          by_cases e : i = j
          · subst e; exact hs
          · exact hall.out i (by omega))
        have HD := hide (fun w' => deeper_any (t.getD j 0) lv hs HG.out.1 w')
        have h2 := Ne.lv1_two (lv := lv) hs
        have hw : wrap64 (lv + Ne.dp (t.getD j 0) lv) = Ne.lv1 lv (t.getD j 0) := by
          have h1 := HG.out.1
          have h3 := HG.out.2
          unfold Ne.dp
          rw [show lv + (Ne.lv1 lv (t.getD j 0) - lv) = Ne.lv1 lv (t.getD j 0) by omega]
          exact w64_small (by omega) (by omega)
        have HN0 := hide (show OW w1.heap.size w1.heap.size n n (Ne.LL t lv (j + 1)) w1 (wr.setCell ⟨w1.heap.size, j, none⟩ (.int .i64 (Ne.lv1 lv (t.getD j 0)))) from by
            rw [← Ne.LL_succ]; exact hW.out.set j _)
        clear hb hs hc hbl hall h2
        generalize Ne.lv1 lv (t.getD j 0) = y at *
        generalize Ne.dp (t.getD j 0) lv = dd at *
        generalize t.getD j 0 = x at *
        go_wp2_with (first | (go_at_call 19; refine HH.out.mono ?_; rintro e w' ⟨rfl, rfl⟩) | (go_at_call 28; refine (HD.out _).mono ?_; rintro e w' ⟨rfl, rfl⟩))
        go_roundw
        case rel => exact ⟨j + 1, by go_num, by omega, HA2, HN0⟩
        case measure => exact HM.out
    · obtain rfl : j = n := by omega
      have hne : ¬ ((j : Int) < (j : Int)) := by omega
      have HE := hide (show L = Ne.LS t lv ∧ E = 0 from by
        rcases HA.out with ⟨h1, _⟩ | ⟨_, h1, h2⟩
        · exact absurd (fun i hi => hall.out i (by rw [HLEN.out] at hi; exact hi)) h1
        · exact ⟨h1, h2⟩)
      have HWW := hide (show Row .i64 wr (some ⟨w1.heap.size, 0, none⟩) j j (Ne.LS t lv) ∧ KO w wr ∧ (Ne.LS t lv).length = j from by
        have h2 := hW.out.row
        rw [← HLEN.out, Ne.LL_all, HLEN.out] at h2
        exact ⟨h2, KO.on HK.out hW.out.bel, by rw [Ne.LS_len, HLEN.out]⟩)
      clear hW hlt hall
      go_wp2
      obtain ⟨rfl, rfl⟩ := HE.out
      go_ret2
      rw [HWW.out.2.2]
      exact ⟨_, j, rfl, HWW.out.1, HWW.out.2.1⟩
theorem levels_any (ao : Option Addr) (n cap : Nat) (lv : Int) (t : List Int) (w : World) (h : Row .i64 w ao n cap t) (hf : WF t) (hn : n * 8 ≤ 140737488351232) (L : List Int) (E : Int) (hA : Ne.AL t lv L E) :
    Calls Try.prog 13 #[.slice ao n cap, .int .i64 lv] w fun e w' => ∃ a1 c1, e = .returned (.tuple #[.slice a1 L.length c1, .int .i64 E]) ∧ Row .i64 w' a1 L.length c1 L ∧ KO w w' := by
  rcases hA with ⟨hg, rfl, rfl⟩ | ⟨hg, ho, rfl, rfl⟩ | ⟨hg, ho, rfl, rfl⟩
  · exact (levels_bad ao n cap lv w hg).mono fun e w' ⟨he, hk⟩ => ⟨none, 0, he, row_nil _ _, by rw [← hk]; exact KO.refl _⟩
  · exact levels_go ao n cap lv t w h hf hn hg _ _ (.inl ⟨ho, rfl, rfl⟩)
  · exact levels_go ao n cap lv t w h hf hn hg _ _ (.inr ⟨ho, rfl, rfl⟩)
theorem resolve_any (ao : Option Addr) (n cap : Nat) (lv so eo : Int) (t : List Int) (w : World) (h : Row .i64 w ao n cap t) (hf : WF t) (hn : n * 8 ≤ 140737488351232) (L : List Int) (E : Int) (hA : Ne.AR t lv so eo L E) :
    Calls Try.prog 10 #[.slice ao n cap, .int .i64 lv, .int .i64 so, .int .i64 eo] w fun e w' => ∃ a1 c1, e = .returned (.tuple #[.slice a1 L.length c1, .int .i64 E]) ∧ Row .i64 w' a1 L.length c1 L ∧ KO w w' := by
  rcases hA with ⟨hg, rfl, rfl⟩ | ⟨hg, ho, rfl, rfl⟩ | ⟨hg, ho, rfl, rfl⟩
  · exact (resolve_bad ao n cap lv so eo w hg).mono fun e w' ⟨he, hk⟩ => ⟨none, 0, he, row_nil _ _, by rw [← hk]; exact KO.refl _⟩
  · exact (resolve_form ao n cap lv so eo t w h hf hn hg ho).mono fun e w' ⟨he, hk⟩ => ⟨none, 0, he, row_nil _ _, hk⟩
  · refine (resolve_ok ao n cap lv so eo t w h hf hn hg ho).mono fun e w' ⟨g, he, hr, hk⟩ => ?_
    rw [Ne.RS_len, h.len]
    exact ⟨_, _, he, hr, hk⟩
theorem ex11a : Ne.AR [2, 13, 1] 1 1 1 [2, 2, 1] 0 := .inr (.inr ⟨⟨by decide, by decide, .inl rfl, .inl rfl⟩, Ne.ok_all (by decide), by decide, rfl⟩)
theorem ex11b : Ne.AL [1, 2, 4, 7] 0 [0, 1, 2, 2] 0 := .inr (.inr ⟨⟨by decide, by decide⟩, Ne.sided_all (by decide), by decide, rfl⟩)
theorem works11_any (w : World) : Calls Try.prog 9 #[] w fun e w' => e = .returned (.bool true) ∧ KO w w' := by
  have HA := hide (fun (w' : World) => resolve_any (some ⟨w'.heap.size, 0, none⟩) 3 3 1 1 1 [2, 13, 1] (w'.alloc (.cells #[.int .i64 2, .int .i64 13, .int .i64 1] 3)) (row_lit .i64 w' [2, 13, 1] 3 (by decide)) (by unfold WF; decide) (by omega) _ _ ex11a)
  have HB := hide (fun (w' : World) => levels_any (some ⟨w'.heap.size, 0, none⟩) 4 4 0 [1, 2, 4, 7] (w'.alloc (.cells #[.int .i64 1, .int .i64 2, .int .i64 4, .int .i64 7] 3)) (row_lit .i64 w' [1, 2, 4, 7] 3 (by decide)) (by unfold WF; decide) (by omega) _ _ ex11b)
  go_enter Try.func9, Try.ntmps9
  go_wp2_with fail
  refine (HA.out w).mono ?_
  rintro e w1 ⟨a1, c1, rfl, hr1, hk1⟩
  have K1 := hide (show KO w w1 from KO.on (KO.alloc (KO.refl w) _) hk1)
  have N1 := hide (show Row .i64 w1 a1 3 c1 [2, 2, 1] from hr1)
  clear hr1 hk1 HA
  go_wp2_with fail
  refine (HB.out w1).mono ?_
  rintro e w2 ⟨a2, c2, rfl, hr2, hk2⟩
  have K2 := hide (show KO w1 w2 from KO.on (KO.alloc (KO.refl w1) _) hk2)
  have N2 := hide (show Row .i64 w2 a2 4 c2 [0, 1, 2, 2] from hr2)
  clear hr2 hk2 HB
  have hka : KO w2 (w2.alloc (.cells #[.int .i64 2, .int .i64 2, .int .i64 1] 3)) := KO.alloc (KO.refl _) _
  have HI1 := hide (ints_yes a1 (some ⟨w2.heap.size, 0, none⟩) 3 c1 3 [2, 2, 1] _ (N1.out.below (KO.on K2.out hka)) (row_lit .i64 w2 [2, 2, 1] 3 (by decide)))
  have KA1 := hide hka
  clear hka
  go_wp2_with fail
  refine HI1.out.mono ?_
  rintro e w4 ⟨rfl, hd4⟩
  have K4 := hide (show KO w2 w4 from KO.on KA1.out (below_of_drewN hd4))
  clear hd4 HI1 KA1
  have hka : KO w4 (w4.alloc (.cells #[.int .i64 0, .int .i64 1, .int .i64 2, .int .i64 2] 3)) := KO.alloc (KO.refl _) _
  have HI2 := hide (ints_yes a2 (some ⟨w4.heap.size, 0, none⟩) 4 c2 4 [0, 1, 2, 2] _ (N2.out.below (KO.on K4.out hka)) (row_lit .i64 w4 [0, 1, 2, 2] 3 (by decide)))
  have KA2 := hide hka
  clear hka
  go_wp2_with fail
  refine HI2.out.mono ?_
  rintro e w5 ⟨rfl, hd5⟩
  have K5 := hide (show KO w4 w5 from KO.on KA2.out (below_of_drewN hd5))
  clear hd5 HI2 KA2
  go_wp2
  go_ret
  exact ⟨rfl, KO.on K1.out (KO.on K2.out (KO.on K4.out K5.out))⟩
end Go.Proofs.Ytbpjacalnipkgaa
