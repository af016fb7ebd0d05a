/- The document's visual order, place by place. -/
import Derived.Test.YtmcbldllbnjipaaRf13
import Derived.Test.YtmcbldllbnjipaaOz13
namespace Go.Proofs.Ytmcbldllbnjipaa
open Go.RowKit
set_option linter.unusedVariables false
set_option maxHeartbeats 1600000
set_option maxRecDepth 100000
theorem rorder_bad (ao : Option Addr) (n cap : Nat) (l : List Int) (w : World) (h : Row .i64 w ao n cap l) (hf : ¬ Od.Fo l) :
    Calls Try.prog 18 #[.slice ao n cap] w fun e w' => e = .returned (.tuple #[.slice none 0 0, .int .i64 2]) ∧ w = w' := by
  have HA := hide (orformed_any ao n cap l w h)
  rw [decide_eq_false hf] at HA
  clear h hf
  go_enter Try.func18, Try.ntmps18
  go_wp2_with (go_at_call 28; refine HA.out.mono ?_; rintro e w' ⟨rfl, rfl⟩)
  go_ret2
  exact ⟨rfl, rfl⟩
theorem rorder_ok (ao : Option Addr) (n cap : Nat) (l : List Int) (w : World) (h : Row .i64 w ao n cap l) (hf : Od.Fo l) (hn : n ≤ 100000) :
    Calls Try.prog 18 #[.slice ao n cap] w fun e w' => ∃ v, e = .returned (.tuple #[v, .int .i64 0]) ∧ w'.ownsRow w.heap.size 3 1 v (Od.ON l).length ((Od.ON l).map (Value.int .i64)) ∧ KO w w' := by
  have HA := hide (orformed_any ao n cap l w h)
  rw [decide_eq_true hf] at HA
  have HF := hide hf
  have H := hide h
  have HL := hide h.len
  obtain ⟨ii, hii, hy0, hy1, hy2⟩ := info_parts infoInt
  have HII : Hid (Try.prog.info? 3 = some ii) := hii
  have HY0 := hide hy0
  have HY1 := hide hy1
  have HY2 := hide hy2
  clear h hf hii hy0 hy1 hy2
  go_enter Try.func18, Try.ntmps18
  go_wp2_with (go_at_call 28; refine HA.out.mono ?_; rintro e w' ⟨rfl, rfl⟩)
  go_loopw [4, 5] (fun s4 s5 W => ∃ k : Nat, s5 = .int .i64 (k : Int) ∧ k ≤ n ∧ s4 = .int .i64 (Od.sc l k : Int) ∧ w = W) (fun _ s5 _ => n - (intOf s5).toNat)
  case atStart => exact ⟨0, rfl, Nat.zero_le _, rfl, rfl⟩
  case round =>
    obtain ⟨k, rfl, hk, rfl, rfl⟩ := hrel
    by_cases hlt : k < n
    · obtain ⟨b, off, rfl, hbl, hc⟩ := H.out.cells (by omega)
      have ck := hc k (by rw [HL.out]; exact hlt)
      have hin : (k : Int) < (n : Int) := by omega
      have hsc := Od.sc_le l k
      have hst : Hid (Od.sc l (k + 1) = if 0 ≤ l.getD k 0 then Od.sc l k + 1 else Od.sc l k) := hide (by rw [Od.sc])
      clear hc
      generalize Od.sc l k = y at *
      generalize l.getD k 0 = x at *
      by_cases h1 : 0 ≤ x
      · have hst2 : Hid (Od.sc l (k + 1) = y + 1) := hide (by rw [hst.out, if_pos h1])
        clear hst
        go_wp2
        go_roundw
        case rel => exact ⟨k + 1, by go_num, by omega, by rw [hst2.out]; go_num, by first | rfl | trivial⟩
        case measure => simp [intOf]; omega
      · have hst2 : Hid (Od.sc l (k + 1) = y) := hide (by rw [hst.out, if_neg h1])
        clear hst
        go_wp2
        go_roundw
        case rel => exact ⟨k + 1, by go_num, by omega, by rw [hst2.out], by first | rfl | trivial⟩
        case measure => simp [intOf]; omega
    · obtain rfl : k = n := by omega
      have hne : ¬ (k : Int) < (k : Int) := by omega
      have HSC : Hid (Od.sc l k = (Od.ON l).length) := hide (by rw [Od.ON_len, ← HL.out]; exact Od.sc_OD l)
      have hON : (Od.ON l).length ≤ k := by rw [← HSC.out]; exact Od.sc_le l k
      have HZ : Hid (Od.OUT l 0 = List.replicate (Od.ON l).length 0) := hide (by rw [Od.OUT_zero, Od.ON_len, Od.OD_len])
      rw [HSC.out]
      have HONL := hide (Od.ON_len l)
      generalize hLL : (Od.ON l).length = LL at *
      have HLE := hide hLL
      clear HSC hLL
      go_wp2_with (at_make; refine wpList_make_full _ rfl _ _ 22 rfl w.heap.size 3 ii (.int .i64 0) 1 Try.underlying22 HII.out HY0.out HY1.out _ _ _ _ LL rfl rfl rfl rfl ?b2 ?b3 (Nat.le_refl _) ?_)
      case b2 => rw [HY2.out]; omega
      case b3 => unfold maxLen; omega
      intro w1 hown hgrow
      have hbel := (Below.refl w.heap.size w).grown hgrow (Nat.le_refl _) (fun _ h => by cases h)
      have HO : Hid (NR .i64 3 w LL (Od.OUT l 0) w1) := hide ⟨by
        have e2 : (madeCells #[Value.int .i64 0] LL).toList = (Od.OUT l 0).map (Value.int .i64) := by
          rw [HZ.out]
          simp [toList_madeCells_one]
        rw [← e2]
        exact hown, hbel⟩
      clear hown hgrow hbel
      go_wp2
      go_loopw [7, 8, 9] (fun s7 s8 s9 W => ∃ i : Nat, s7 = .int .i64 (i : Int) ∧ i ≤ k ∧ Hid (NR .i64 3 w LL (Od.OUT l i) W)) (fun s7 _ _ _ => k - (intOf s7).toNat)
      case atStart => exact ⟨0, rfl, Nat.zero_le _, HO⟩
      case round =>
        obtain ⟨i, rfl, hi, hm⟩ := hrel
        by_cases hlt2 : i < k
        · have hin2 : (i : Int) < (k : Int) := by omega
          obtain ⟨b, off, rfl, hbl, hc⟩ := H.out.cells (by omega)
          have HC : Hid (∀ W, KO w W → ∀ j, j < k → W.cell? ⟨b, off + j, none⟩ = some (.int .i64 (l.getD j 0))) := hide (fun W hk j hj => (Below.cell hk (by exact hbl)).trans (hc j (by rw [HL.out]; exact hj)))
          have hkl : i < l.length := by rw [HL.out]; exact hlt2
          clear hc
          by_cases hs : 0 ≤ l.getD i 0
          · have hsn := Od.sn_of hs hkl
            have HI : Hid (l.getD i 0 = l.getD i 0 ∧ 0 ≤ l.getD i 0) := hide ⟨rfl, hs⟩
            go_wp2
            go_loopw [8, 9] (fun s8 s9 W => ∃ j : Nat, s9 = .int .i64 (j : Int) ∧ j ≤ k ∧ s8 = .int .i64 (Od.cnt l i j : Int) ∧ Hid (NR .i64 3 w LL (Od.OUT l i) W)) (fun _ s9 _ => k - (intOf s9).toNat)
            case atStart => exact ⟨0, rfl, Nat.zero_le _, rfl, hm⟩
            case round =>
              clear hm
              obtain ⟨j, rfl, hj, rfl, hm⟩ := hrel
              have ci := HC.out _ hm.out.bel i hlt2
              by_cases hlt3 : j < k
              · have hin3 : (j : Int) < (k : Int) := by omega
                have cj := HC.out _ hm.out.bel j hlt3
                have hcl := Od.cnt_le l i j
                by_cases hji : j = i
                · subst hji
                  have hst := hide (Od.cnt_same (lv := l) (i := j) (k := j) (fun q => Od.Lf_self q.2))
                  have hne3 : ((j : Int) != (j : Int)) = false := by simp
                  generalize l.getD j 0 = x at *
                  generalize Od.cnt l j j = y at *
                  go_wp2
                  go_roundw
                  case rel => exact ⟨j + 1, by go_num, by omega, by rw [hst.out], hm⟩
                  case measure => simp [intOf]; omega
                · have hne3 : ((j : Int) != (i : Int)) = true := bne_iff_ne.2 (by omega)
                  by_cases hj0 : 0 ≤ l.getD j 0
                  · have HLf := hide (rleft_any (some ⟨b, off, none⟩) k cap j i l wr (H.out.below hm.out.bel) hji hlt3 hlt2 hj0 hs)
                    by_cases hlf : Od.Lf l j i
                    · rw [decide_eq_true hlf] at HLf
                      have hst := hide (Od.cnt_more (lv := l) (i := i) (k := j) ⟨Od.sn_of hj0 (by rw [HL.out]; exact hlt3), hlf⟩)
                      clear hlf hsn
                      generalize l.getD j 0 = x at *
                      generalize l.getD i 0 = z at *
                      generalize Od.cnt l i j = y at *
                      go_wp2_with (go_at_call 29; refine HLf.out.mono ?_; rintro e w' ⟨rfl, rfl⟩)
                      go_roundw
                      case rel => exact ⟨j + 1, by go_num, by omega, by rw [hst.out]; go_num, hm⟩
                      case measure => simp [intOf]; omega
                    · rw [decide_eq_false hlf] at HLf
                      have hst := hide (Od.cnt_same (lv := l) (i := i) (k := j) (fun q => hlf q.2))
                      clear hlf hsn
                      generalize l.getD j 0 = x at *
                      generalize l.getD i 0 = z at *
                      generalize Od.cnt l i j = y at *
                      go_wp2_with (go_at_call 29; refine HLf.out.mono ?_; rintro e w' ⟨rfl, rfl⟩)
                      go_roundw
                      case rel => exact ⟨j + 1, by go_num, by omega, by rw [hst.out], hm⟩
                      case measure => simp [intOf]; omega
                  · have hst := hide (Od.cnt_same (lv := l) (i := i) (k := j) (fun q => hj0 (Od.sn_at q.1).2))
                    clear hsn
                    generalize l.getD j 0 = x at *
                    generalize l.getD i 0 = z at *
                    generalize Od.cnt l i j = y at *
                    go_wp2
                    go_roundw
                    case rel => exact ⟨j + 1, by go_num, by omega, by rw [hst.out], hm⟩
                    case measure => simp [intOf]; omega
              · obtain rfl : j = k := by omega
                have hne2 : ¬ (j : Int) < (j : Int) := by omega
                obtain ⟨g1, g2⟩ := Od.cnt_lt HF.out hsn
                rw [HL.out] at g1 g2
                rw [← HONL.out] at g1
                have hput := Od.OUT_put HF.out hsn
                rw [HL.out] at hput
                have hset := hm.out.set (Od.cnt l i j) (i : Int)
                rw [hput] at hset
                have HM := hide hset
                have co := hm.out.cell g1
                have fo := hm.out.fz (Od.cnt l i j)
                have hin4 : (Od.cnt l i j : Int) < (LL : Int) := by omega
                clear hput hset hm g2 hsn HI
                generalize (Od.OUT l i).getD (Od.cnt l i j) 0 = old at *
                generalize Od.cnt l i j = y at *
                generalize l.getD i 0 = z at *
                go_wp2
                go_roundw
                case rel => exact ⟨i + 1, by go_num, by omega, HM⟩
                case measure => simp [intOf]; omega
          · have hsn : Od.sn l i = false := by rw [← Bool.not_eq_true]; exact fun q => hs (Od.sn_at q).2
            have HSK := hide (Od.OUT_skip HF.out hsn)
            go_wp2
            go_loopw [8, 9] (fun s8 s9 W => ∃ j : Nat, s9 = .int .i64 (j : Int) ∧ j ≤ k ∧ s8 = .int .i64 0 ∧ Hid (NR .i64 3 w LL (Od.OUT l i) W)) (fun _ s9 _ => k - (intOf s9).toNat)
            case atStart => exact ⟨0, rfl, Nat.zero_le _, rfl, hm⟩
            case round =>
              clear hm
              obtain ⟨j, rfl, hj, rfl, hm⟩ := hrel
              have ci := HC.out _ hm.out.bel i hlt2
              by_cases hlt3 : j < k
              · have hin3 : (j : Int) < (k : Int) := by omega
                have cj := HC.out _ hm.out.bel j hlt3
                by_cases hji : j = i
                · subst hji
                  have hne3 : ((j : Int) != (j : Int)) = false := by simp
                  generalize l.getD j 0 = x at ci cj hs
                  go_wp2
                  go_roundw
                  case rel => exact ⟨j + 1, by go_num, by omega, rfl, hm⟩
                  case measure => simp [intOf]; omega
                · have hne3 : ((j : Int) != (i : Int)) = true := bne_iff_ne.2 (by omega)
                  by_cases hj0 : 0 ≤ l.getD j 0
                  · clear hsn
                    generalize l.getD j 0 = x at cj hj0
                    generalize l.getD i 0 = z at ci hs
                    have hs3 : ¬ 0 ≤ z := by omega
                    go_wp2
                    go_roundw
                    case rel => exact ⟨j + 1, by go_num, by omega, rfl, hm⟩
                    case measure => simp [intOf]; omega
                  · clear hsn
                    generalize l.getD j 0 = x at cj hj0
                    generalize l.getD i 0 = z at ci hs
                    have hs3 : ¬ 0 ≤ z := by omega
                    go_wp2
                    go_roundw
                    case rel => exact ⟨j + 1, by go_num, by omega, rfl, hm⟩
                    case measure => simp [intOf]; omega
              · obtain rfl : j = k := by omega
                have hne2 : ¬ (j : Int) < (j : Int) := by omega
                have HM := hide (show NR .i64 3 w LL (Od.OUT l (i + 1)) wr from by rw [HSK.out]; exact hm.out)
                clear hm hsn HSK
                generalize l.getD i 0 = z at ci hs
                have hs3 : ¬ 0 ≤ z := by omega
                go_wp2
                go_roundw
                case rel => exact ⟨i + 1, by go_num, by omega, HM⟩
                case measure => simp [intOf]; omega
        · obtain rfl : i = k := by omega
          have hne2 : ¬ (i : Int) < (i : Int) := by omega
          have HM := hide (show NR .i64 3 w LL (Od.ON l) wr from by
            have := hm.out
            rw [← HL.out, Od.OUT_end HF.out] at this
            exact this)
          clear hm
          go_wp2
          go_ret2
          refine ⟨_, rfl, ?_, HM.out.bel⟩
          rw [HLE.out]
          exact HM.out.own
theorem rorder_any (ao : Option Addr) (n cap : Nat) (l : List Int) (w : World) (h : Row .i64 w ao n cap l) (hn : n ≤ 100000) (L : List Int) (E : Int) (hA : OA l L E) :
    Calls Try.prog 18 #[.slice ao n cap] w fun e w' => ∃ a c, e = .returned (.tuple #[.slice a L.length c, .int .i64 E]) ∧ Row .i64 w' a L.length c L ∧ KO w w' := by
  rcases hA with hA | hA
  · obtain ⟨hf, hL, hE⟩ := hA
    subst hE
    have hO := rorder_ok ao n cap l w h hf hn
    rw [← hL] at hO
    clear hL
    refine hO.mono ?_
    rintro e w' ⟨v, e0, ho, hk⟩
    obtain ⟨a, c, e1, hr⟩ := row_any ho
    exact ⟨a, c, by rw [e0, e1], hr, hk⟩
  · obtain ⟨hf, hL, hE⟩ := hA
    subst hE
    subst hL
    refine (rorder_bad ao n cap l w h hf).mono ?_
    rintro e w' ⟨e0, e1⟩
    exact ⟨none, 0, e0, row_nil _ _, by rw [← e1]; exact KO.refl _⟩
end Go.Proofs.Ytmcbldllbnjipaa
