import Derived.Test.YtfcoebbblfcdoaaGreatDoorZ42
import Derived.Test.YtfcoebbblfcdoaaGreatDoorZ26
import Derived.Test.YtfcoebbblfcdoaaGreatDoorZ27
import Derived.Test.YtfcoebbblfcdoaaGreatDoorZ35
import Derived.Deep.RegionHeldLaw
import Derived.Deep.RegionHeld3
import Derived.Test.YtfcoebbblfcdoaaGreatDoorZ28
import Derived.Test.YtfcoebbblfcdoaaGreatDoorZ29
import Derived.Test.YtfcoebbblfcdoaaGreatDoorZ31
/- The document's Line, place by place. -/
namespace Go.Proofs.YtfcoebbblfcdoaaGreatDoor
open Go.RowKit
set_option linter.unusedVariables false
set_option maxHeartbeats 1000000
set_option maxRecDepth 100000
theorem rline_ok (ac al : Option Addr) (n cc cl fr tq : Nat) (c l : List Int) (base : Int) (w : World) (hc : Row .i64 w ac n cc c) (hl : Row .i64 w al n cl l) (hg : LineGood n n l base) (hft : fr <= tq) (hto : tq <= n) (hn : n * 8 <= 140737488351232) :
  Calls Tryz.prog 17 #[.slice ac n cc, .slice al n cl, .int .i64 base, .int .i64 (fr : Int), .int .i64 (tq : Int)] w fun e w' =>
   ∃ v, e = .returned (.tuple #[v, .int .i64 0]) /\ w'.ownsRow w.heap.size 3 1 v (tq - fr) ((Od.LI c l base fr tq).map (Value.int .i64)) /\ KO w w' := by
 obtain ⟨ii, hii, hy0, hy1, hy2⟩ := info_parts infoInt
 have HII : Hid (Tryz.prog.info? 3 = some ii) := hii
 have HY0 := hide hy0
 have HY1 := hide hy1
 have HY2 := hide hy2
 have HA := hide (orformed_any al n cl l w hl)
 rw [decide_eq_true hg.2.2.2] at HA
 have h2 : ¬ base < 0 := by have := hg.2.1; omega
 have h3 : ¬ 1 < base := by have := hg.2.2.1; omega
 have r1 : ¬ (fr : Int) < 0 := by omega
 have r2 : ¬ (n : Int) < (tq : Int) := by omega
 have r3 : ¬ (tq : Int) < (fr : Int) := by omega
 have r2b : ¬ n < tq := by omega
 have r3b : ¬ tq < fr := by omega
 have hn2 : n <= 17592186044416 := by omega
 have HRS := hide (fun (i : Nat) (hi : i < tq) (W : World) (hk : KO w W) => resets_any ac al n cc cl i tq c l W (hc.below hk) (hl.below hk) hi hto)
 have HL := hide hl
 have HLl := hide hl.len
 have HLN := hide (Od.LI_len (c := c) (lv := l) (base := base) fr tq)
 clear hg hl hc hii hy0 hy1 hy2
 go_enter Tryz.func17, Tryz.ntmps17
 go_wp2_with (go_at_call 36; refine HA.out.mono ?_; rintro e w' ⟨rfl, rfl⟩)
 go_loopw [12, 13, 14] (fun s12 s13 s14 W => ∃ (v : Value) (j : Nat), v = s12 /\ s13 = .int .i64 (j : Int) /\ fr <= j /\ j <= tq /\ Hid (RG w ((Od.LI c l base fr tq).take (j - fr)) (j - fr) v W)) (fun _ s13 _ _ => tq - (intOf s13).toNat)
 case atStart => exact ⟨_, fr, rfl, rfl, Nat.le_refl _, hft, hide (by rw [Nat.sub_self]; exact ⟨World.ownsRow_nil _ _ _ _, KO.refl w⟩)⟩
 case round =>
  obtain ⟨v, j, hv, rfl, hfj, hjt, hm⟩ := hrel
  subst hv
  obtain ⟨k, hk⟩ : ∃ k, k = j - fr := ⟨_, rfl⟩
  have hfk : fr + k = j := by omega
  have HK1 : Hid (j + 1 - fr = k + 1) := hide (by omega)
  rw [<- hk] at hm
  by_cases hlt : j < tq
  ·have hlk : k < tq - fr := by omega
   have hin : (j : Int) < (tq : Int) := by omega
   have hin2 : (j : Int) < (n : Int) := by omega
   obtain ⟨bl, ol, hal, hbl, hcl⟩ := HL.out.cells (by omega)
   subst hal
   have lk := (Below.cell hm.out.bel (by exact hbl)).trans (hcl j (by rw [HLl.out]; omega))
   have hup := Od.LI_upto (c := c) (lv := l) (base := base) hlk
   rw [hfk] at hup
   have HR := hide (HRS.out j hlt wr hm.out.bel)
   have HW := hide hm.out
   obtain ⟨a3, c3, hva, _⟩ := owns_form hm.out.own
   subst hva
   clear hm hcl
   by_cases h0 : 0 <= l.getD j 0
   ·by_cases hrs : Od.rs c l j (tq - j) = true
    ·have hli : Od.li c l base j (tq - j) = base := by unfold Od.li; rw [if_pos ⟨h0, hrs⟩]
     rw [hli] at hup
     rw [hrs] at HR
     have HUP := hide hup
     clear hup hli hrs
     generalize l.getD j 0 = y at lk h0
     have hkb : k <= 17592186044415 := by omega
     clear hk hfk hlk
     go_wp2_with (first
      | (go_at_call 37; refine HR.out.mono ?_; rintro e w' ⟨rfl, rfl⟩)
      | (at_builtin; refine wpList_append_row _ rfl (.tmp 66) (.tmp 68) 30 rfl w.heap.size 3 ii (.int .i64 0) 8 Tryz.underlying30 HII.out HY0.out HY1.out HY2.out rfl _ k _ rfl (HW.out.own.alloc _) .i64 _ 1 1 [base] rfl (row_one _ wr.heap.size rfl base) (by omega) (by omega) (by have := HW.out.bel.size; simp; omega) ?_; intro v2 w3 hown2 hb3))
     have HM := hide (RG.snoc HW.out.bel hb3 hown2 HUP.out)
     clear hown2 hb3 HW
     go_wp2
     go_roundw
     case rel => exact ⟨_, j + 1, rfl, by go_num, by omega, by omega, hide (by rw [HK1.out]; exact HM.out)⟩
     case measure => simp [intOf]; omega
    ·have hrf := (Bool.not_eq_true _).mp hrs
     have hli : Od.li c l base j (tq - j) = l.getD j 0 := by unfold Od.li; rw [if_neg (fun q => hrs q.2)]
     rw [hli] at hup
     rw [hrf] at HR
     have HUP := hide hup
     clear hup hli hrs hrf
     generalize l.getD j 0 = y at lk h0 HUP
     have hkb : k <= 17592186044415 := by omega
     clear hk hfk hlk
     go_wp2_with (first
      | (go_at_call 37; refine HR.out.mono ?_; rintro e w' ⟨rfl, rfl⟩)
      | (at_builtin; refine wpList_append_row _ rfl (.tmp 66) (.tmp 68) 30 rfl w.heap.size 3 ii (.int .i64 0) 8 Tryz.underlying30 HII.out HY0.out HY1.out HY2.out rfl _ k _ rfl (HW.out.own.alloc _) .i64 _ 1 1 [y] rfl (row_one _ wr.heap.size rfl y) (by omega) (by omega) (by have := HW.out.bel.size; simp; omega) ?_; intro v2 w3 hown2 hb3))
     have HM := hide (RG.snoc HW.out.bel hb3 hown2 HUP.out)
     clear hown2 hb3 HW
     go_wp2
     go_roundw
     case rel => exact ⟨_, j + 1, rfl, by go_num, by omega, by omega, hide (by rw [HK1.out]; exact HM.out)⟩
     case measure => simp [intOf]; omega
   ·have hli : Od.li c l base j (tq - j) = l.getD j 0 := Od.li_unseen h0
    rw [hli] at hup
    have HUP := hide hup
    clear hup hli HR
    generalize l.getD j 0 = y at lk h0 HUP
    have hkb : k <= 17592186044415 := by omega
    clear hk hfk hlk
    go_wp2_with (at_builtin; refine wpList_append_row _ rfl (.tmp 66) (.tmp 68) 30 rfl w.heap.size 3 ii (.int .i64 0) 8 Tryz.underlying30 HII.out HY0.out HY1.out HY2.out rfl _ k _ rfl (HW.out.own.alloc _) .i64 _ 1 1 [y] rfl (row_one _ wr.heap.size rfl y) (by omega) (by omega) (by have := HW.out.bel.size; simp; omega) ?_; intro v2 w3 hown2 hb3)
    have HM := hide (RG.snoc HW.out.bel hb3 hown2 HUP.out)
    clear hown2 hb3 HW
    go_wp2
    go_roundw
    case rel => exact ⟨_, j + 1, rfl, by go_num, by omega, by omega, hide (by rw [HK1.out]; exact HM.out)⟩
    case measure => simp [intOf]; omega
  ·have hkt : k = tq - fr := by omega
   have hne : ¬ (j : Int) < (tq : Int) := by omega
   have HM := hide (show RG w (Od.LI c l base fr tq) (tq - fr) v wr from by
    have := hm.out
    rw [hkt, List.take_of_length_le (by rw [HLN.out]; exact Nat.le_refl _)] at this
    exact this)
   clear hm hkt hk hfk
   go_wp2
   go_ret2
   exact ⟨_, rfl, HM.out.own, HM.out.bel⟩
end Go.Proofs.YtfcoebbblfcdoaaGreatDoor

/- The document's visual order, place by place. -/
namespace Go.Proofs.YtfcoebbblfcdoaaGreatDoor
open Go.RowKit
set_option linter.unusedVariables false
set_option maxHeartbeats 1600000
set_option maxRecDepth 100000
theorem rorder_bad (ao : Option Addr) (n cap : Nat) (l : List Int) (w : World) (h : Row .i64 w ao n cap l) (hf : ¬ Od.Fo l) :
  Calls Tryz.prog 39 #[.slice ao n cap] w fun e w' => e = .returned (.tuple #[.slice none 0 0, .int .i64 2]) /\ w = w' := by
 have HA := hide (orformed_any ao n cap l w h)
 rw [decide_eq_false hf] at HA
 clear h hf
 go_enter Tryz.func39, Tryz.ntmps39
 go_wp2_with (go_at_call 36; refine HA.out.mono ?_; rintro e w' ⟨rfl, rfl⟩)
 go_ret2
 exact ⟨rfl, rfl⟩
theorem rorder_ok (ao : Option Addr) (n cap : Nat) (l : List Int) (w : World) (h : Row .i64 w ao n cap l) (hf : Od.Fo l) (hn : n <= 100000) :
  Calls Tryz.prog 39 #[.slice ao n cap] w fun e w' => ∃ v, e = .returned (.tuple #[v, .int .i64 0]) /\ w'.ownsRow w.heap.size 3 1 v (Od.ON l).length ((Od.ON l).map (Value.int .i64)) /\ KO w w' := by
 have HA := hide (orformed_any ao n cap l w h)
 rw [decide_eq_true hf] at HA
 have HF := hide hf
 have H := hide h
 have HL := hide h.len
 obtain ⟨ii, hii, hy0, hy1, hy2⟩ := info_parts infoInt
 have HII : Hid (Tryz.prog.info? 3 = some ii) := hii
 have HY0 := hide hy0
 have HY1 := hide hy1
 have HY2 := hide hy2
 clear h hf hii hy0 hy1 hy2
 go_enter Tryz.func39, Tryz.ntmps39
 go_wp2_with (go_at_call 36; refine HA.out.mono ?_; rintro e w' ⟨rfl, rfl⟩)
 go_loopw [4, 5] (fun s4 s5 W => ∃ k : Nat, s5 = .int .i64 (k : Int) /\ k <= n /\ s4 = .int .i64 (Od.sc l k : Int) /\ w = W) (fun _ s5 _ => n - (intOf s5).toNat)
 case atStart => exact ⟨0, rfl, Nat.zero_le _, rfl, rfl⟩
 case round =>
  obtain ⟨k, rfl, hk, rfl, rfl⟩ := hrel
  by_cases hlt : k < n
  ·obtain ⟨b, off, rfl, hbl, hc⟩ := H.out.cells (by omega)
   have ck := hc k (by rw [HL.out]; exact hlt)
   have hin : (k : Int) < (n : Int) := by omega
   have hsc := Od.sc_le l k
   have hst : Hid (Od.sc l (k + 1) = if 0 <= l.getD k 0 then Od.sc l k + 1 else Od.sc l k) := hide (by rw [Od.sc])
   clear hc
   generalize Od.sc l k = y at *
   generalize l.getD k 0 = x at *
   by_cases h1 : 0 <= x
   ·have hst2 : Hid (Od.sc l (k + 1) = y + 1) := hide (by rw [hst.out, if_pos h1])
    clear hst
    go_wp2
    go_roundw
    case rel => exact ⟨k + 1, by go_num, by omega, by rw [hst2.out]; go_num, by first | rfl | trivial⟩
    case measure => simp [intOf]; omega
   ·have hst2 : Hid (Od.sc l (k + 1) = y) := hide (by rw [hst.out, if_neg h1])
    clear hst
    go_wp2
    go_roundw
    case rel => exact ⟨k + 1, by go_num, by omega, by rw [hst2.out], by first | rfl | trivial⟩
    case measure => simp [intOf]; omega
  ·obtain rfl : k = n := by omega
   have hne : ¬ (k : Int) < (k : Int) := by omega
   have HSC : Hid (Od.sc l k = (Od.ON l).length) := hide (by rw [Od.ON_len, <- HL.out]; exact Od.sc_OD l)
   have hON : (Od.ON l).length <= k := by rw [<- HSC.out]; exact Od.sc_le l k
   have HZ : Hid (Od.OUT l 0 = List.replicate (Od.ON l).length 0) := hide (by rw [Od.OUT_zero, Od.ON_len, Od.OD_len])
   rw [HSC.out]
   have HONL := hide (Od.ON_len l)
   generalize hLL : (Od.ON l).length = LL at *
   have HLE := hide hLL
   clear HSC hLL
   go_wp2_with (at_make; refine wpList_make_full _ rfl _ _ 30 rfl w.heap.size 3 ii (.int .i64 0) 1 Tryz.underlying30 HII.out HY0.out HY1.out _ _ _ _ LL rfl rfl rfl rfl ?b2 ?b3 (Nat.le_refl _) ?_)
   case b2 => rw [HY2.out]; omega
   case b3 => unfold maxLen; omega
   intro w1 hown hgrow
   have hbel := (Below.refl w.heap.size w).grown hgrow (Nat.le_refl _) (fun _ h => by cases h)
   have HO : Hid (NR .i64 3 w LL (Od.OUT l 0) w1) := hide ⟨by
    have e2 : (madeCells #[Value.int .i64 0] LL).toList = (Od.OUT l 0).map (Value.int .i64) := by
     rw [HZ.out]
     simp [toList_madeCells_one]
    rw [<- e2]
    exact hown, hbel⟩
   clear hown hgrow hbel
   go_wp2
   go_loopw [7, 8, 9] (fun s7 s8 s9 W => ∃ i : Nat, s7 = .int .i64 (i : Int) /\ i <= k /\ Hid (NR .i64 3 w LL (Od.OUT l i) W)) (fun s7 _ _ _ => k - (intOf s7).toNat)
   case atStart => exact ⟨0, rfl, Nat.zero_le _, HO⟩
   case round =>
    obtain ⟨i, rfl, hi, hm⟩ := hrel
    by_cases hlt2 : i < k
    ·have hin2 : (i : Int) < (k : Int) := by omega
     obtain ⟨b, off, rfl, hbl, hc⟩ := H.out.cells (by omega)
     have HC : Hid (∀ W, KO w W -> ∀ j, j < k -> W.cell? ⟨b, off + j, none⟩ = some (.int .i64 (l.getD j 0))) := hide (fun W hk j hj => (Below.cell hk (by exact hbl)).trans (hc j (by rw [HL.out]; exact hj)))
     have hkl : i < l.length := by rw [HL.out]; exact hlt2
     clear hc
     by_cases hs : 0 <= l.getD i 0
     ·have hsn := Od.sn_of hs hkl
      have HI : Hid (l.getD i 0 = l.getD i 0 /\ 0 <= l.getD i 0) := hide ⟨rfl, hs⟩
      go_wp2
      go_loopw [8, 9] (fun s8 s9 W => ∃ j : Nat, s9 = .int .i64 (j : Int) /\ j <= k /\ s8 = .int .i64 (Od.cnt l i j : Int) /\ Hid (NR .i64 3 w LL (Od.OUT l i) W)) (fun _ s9 _ => k - (intOf s9).toNat)
      case atStart => exact ⟨0, rfl, Nat.zero_le _, rfl, hm⟩
      case round =>
       clear hm
       obtain ⟨j, rfl, hj, rfl, hm⟩ := hrel
       have ci := HC.out _ hm.out.bel i hlt2
       by_cases hlt3 : j < k
       ·have hin3 : (j : Int) < (k : Int) := by omega
        have cj := HC.out _ hm.out.bel j hlt3
        have hcl := Od.cnt_le l i j
        by_cases hji : j = i
        ·subst hji
         have hst := hide (Od.cnt_same (lv := l) (i := j) (k := j) (fun q => Od.Lf_self q.2))
         have hne3 : ((j : Int) != (j : Int)) = false := by simp
         generalize l.getD j 0 = x at *
         generalize Od.cnt l j j = y at *
         go_wp2
         go_roundw
         case rel => exact ⟨j + 1, by go_num, by omega, by rw [hst.out], hm⟩
         case measure => simp [intOf]; omega
        ·have hne3 : ((j : Int) != (i : Int)) = true := bne_iff_ne.2 (by omega)
         by_cases hj0 : 0 <= l.getD j 0
         ·have HLf := hide (rleft_any (some ⟨b, off, none⟩) k cap j i l wr (H.out.below hm.out.bel) hji hlt3 hlt2 hj0 hs)
          by_cases hlf : Od.Lf l j i
          ·rw [decide_eq_true hlf] at HLf
           have hst := hide (Od.cnt_more (lv := l) (i := i) (k := j) ⟨Od.sn_of hj0 (by rw [HL.out]; exact hlt3), hlf⟩)
           clear hlf hsn
           generalize l.getD j 0 = x at *
           generalize l.getD i 0 = z at *
           generalize Od.cnt l i j = y at *
           go_wp2_with (go_at_call 66; refine HLf.out.mono ?_; rintro e w' ⟨rfl, rfl⟩)
           go_roundw
           case rel => exact ⟨j + 1, by go_num, by omega, by rw [hst.out]; go_num, hm⟩
           case measure => simp [intOf]; omega
          ·rw [decide_eq_false hlf] at HLf
           have hst := hide (Od.cnt_same (lv := l) (i := i) (k := j) (fun q => hlf q.2))
           clear hlf hsn
           generalize l.getD j 0 = x at *
           generalize l.getD i 0 = z at *
           generalize Od.cnt l i j = y at *
           go_wp2_with (go_at_call 66; refine HLf.out.mono ?_; rintro e w' ⟨rfl, rfl⟩)
           go_roundw
           case rel => exact ⟨j + 1, by go_num, by omega, by rw [hst.out], hm⟩
           case measure => simp [intOf]; omega
         ·have hst := hide (Od.cnt_same (lv := l) (i := i) (k := j) (fun q => hj0 (Od.sn_at q.1).2))
          clear hsn
          generalize l.getD j 0 = x at *
          generalize l.getD i 0 = z at *
          generalize Od.cnt l i j = y at *
          go_wp2
          go_roundw
          case rel => exact ⟨j + 1, by go_num, by omega, by rw [hst.out], hm⟩
          case measure => simp [intOf]; omega
       ·obtain rfl : j = k := by omega
        have hne2 : ¬ (j : Int) < (j : Int) := by omega
        obtain ⟨g1, g2⟩ := Od.cnt_lt HF.out hsn
        rw [HL.out] at g1 g2
        rw [<- HONL.out] at g1
        have hput := Od.OUT_put HF.out hsn
        rw [HL.out] at hput
        have hset := hm.out.set (Od.cnt l i j) (i : Int)
        rw [hput] at hset
        have HM := hide hset
        have co := hm.out.cell g1
        have fo := hm.out.fz (Od.cnt l i j)
        have hin4 : (Od.cnt l i j : Int) < (LL : Int) := by omega
        clear hput hset hm g2 hsn HI
        generalize (Od.OUT l i).getD (Od.cnt l i j) 0 = old at *
        generalize Od.cnt l i j = y at *
        generalize l.getD i 0 = z at *
        go_wp2
        go_roundw
        case rel => exact ⟨i + 1, by go_num, by omega, HM⟩
        case measure => simp [intOf]; omega
     ·have hsn : Od.sn l i = false := by rw [<- Bool.not_eq_true]; exact fun q => hs (Od.sn_at q).2
      have HSK := hide (Od.OUT_skip HF.out hsn)
      go_wp2
      go_loopw [8, 9] (fun s8 s9 W => ∃ j : Nat, s9 = .int .i64 (j : Int) /\ j <= k /\ s8 = .int .i64 0 /\ Hid (NR .i64 3 w LL (Od.OUT l i) W)) (fun _ s9 _ => k - (intOf s9).toNat)
      case atStart => exact ⟨0, rfl, Nat.zero_le _, rfl, hm⟩
      case round =>
       clear hm
       obtain ⟨j, rfl, hj, rfl, hm⟩ := hrel
       have ci := HC.out _ hm.out.bel i hlt2
       by_cases hlt3 : j < k
       ·have hin3 : (j : Int) < (k : Int) := by omega
        have cj := HC.out _ hm.out.bel j hlt3
        by_cases hji : j = i
        ·subst hji
         have hne3 : ((j : Int) != (j : Int)) = false := by simp
         generalize l.getD j 0 = x at ci cj hs
         go_wp2
         go_roundw
         case rel => exact ⟨j + 1, by go_num, by omega, rfl, hm⟩
         case measure => simp [intOf]; omega
        ·have hne3 : ((j : Int) != (i : Int)) = true := bne_iff_ne.2 (by omega)
         by_cases hj0 : 0 <= l.getD j 0
         ·clear hsn
          generalize l.getD j 0 = x at cj hj0
          generalize l.getD i 0 = z at ci hs
          have hs3 : ¬ 0 <= z := by omega
          go_wp2
          go_roundw
          case rel => exact ⟨j + 1, by go_num, by omega, rfl, hm⟩
          case measure => simp [intOf]; omega
         ·clear hsn
          generalize l.getD j 0 = x at cj hj0
          generalize l.getD i 0 = z at ci hs
          have hs3 : ¬ 0 <= z := by omega
          go_wp2
          go_roundw
          case rel => exact ⟨j + 1, by go_num, by omega, rfl, hm⟩
          case measure => simp [intOf]; omega
       ·obtain rfl : j = k := by omega
        have hne2 : ¬ (j : Int) < (j : Int) := by omega
        have HM := hide (show NR .i64 3 w LL (Od.OUT l (i + 1)) wr from by rw [HSK.out]; exact hm.out)
        clear hm hsn HSK
        generalize l.getD i 0 = z at ci hs
        have hs3 : ¬ 0 <= z := by omega
        go_wp2
        go_roundw
        case rel => exact ⟨i + 1, by go_num, by omega, HM⟩
        case measure => simp [intOf]; omega
    ·obtain rfl : i = k := by omega
     have hne2 : ¬ (i : Int) < (i : Int) := by omega
     have HM := hide (show NR .i64 3 w LL (Od.ON l) wr from by
      have := hm.out
      rw [<- HL.out, Od.OUT_end HF.out] at this
      exact this)
     clear hm
     go_wp2
     go_ret2
     refine ⟨_, rfl, ?_, HM.out.bel⟩
     rw [HLE.out]
     exact HM.out.own
theorem rorder_any (ao : Option Addr) (n cap : Nat) (l : List Int) (w : World) (h : Row .i64 w ao n cap l) (hn : n <= 100000) (L : List Int) (E : Int) (hA : OA l L E) :
  Calls Tryz.prog 39 #[.slice ao n cap] w fun e w' => ∃ a c, e = .returned (.tuple #[.slice a L.length c, .int .i64 E]) /\ Row .i64 w' a L.length c L /\ KO w w' := by
 rcases hA with hA | hA
 ·obtain ⟨hf, hL, hE⟩ := hA
  subst hE
  have hO := rorder_ok ao n cap l w h hf hn
  rw [<- hL] at hO
  clear hL
  refine hO.mono ?_
  rintro e w' ⟨v, e0, ho, hk⟩
  obtain ⟨a, c, e1, hr⟩ := row_any ho
  exact ⟨a, c, by rw [e0, e1], hr, hk⟩
 ·obtain ⟨hf, hL, hE⟩ := hA
  subst hE
  subst hL
  refine (rorder_bad ao n cap l w h hf).mono ?_
  rintro e w' ⟨e0, e1⟩
  exact ⟨none, 0, e0, row_nil _ _, by rw [<- e1]; exact KO.refl _⟩
end Go.Proofs.YtfcoebbblfcdoaaGreatDoor

/- The document's Glyph and Show, by contract. -/
namespace Go.Proofs.YtfcoebbblfcdoaaGreatDoor
open Go.RowKit
set_option linter.unusedVariables false
set_option maxHeartbeats 1600000
set_option maxRecDepth 100000
theorem rglyph_any (r lv : Int) (w : World) : Calls Tryz.prog 40 #[.int .i32 r, .int .i64 lv] w fun e w' => e = .returned (.int .i32 (Mi.gl r lv)) /\ KO w w' := by
 have HM := hide (rmirror_any r w)
 by_cases h0 : 0 <= lv
 ·by_cases h1 : lv % 2 = 1
  ·have ht : lv.tmod 2 = 1 := by rw [Int.tmod_eq_emod_of_nonneg h0]; exact h1
   cases hb : (Ucd.mir r).2 with
   | true =>
    rw [hb, <- Mi.gl_yes ⟨h0, h1⟩ hb] at HM
    clear hb h1
    generalize Mi.gl r lv = g at *
    generalize hx : lv.tmod 2 = x at ht
    subst ht
    go_enter Tryz.func40, Tryz.ntmps40
    go_wp2_with (go_at_call 67; refine HM.out.mono ?_; rintro e w1 ⟨rfl, hk1⟩; have HK := hide hk1; clear hk1)
    go_ret
    exact ⟨rfl, HK.out⟩
   | false =>
    rw [hb] at HM
    rw [Mi.gl_no hb]
    clear hb h1 ht
    generalize (Ucd.mir r).1 = g at *
    go_enter Tryz.func40, Tryz.ntmps40
    go_wp2_with (go_at_call 67; refine HM.out.mono ?_; rintro e w1 ⟨rfl, hk1⟩; have HK := hide hk1; clear hk1)
    go_ret
    exact ⟨rfl, HK.out⟩
  ·have ht : ¬ lv.tmod 2 = 1 := by rw [Int.tmod_eq_emod_of_nonneg h0]; exact h1
   have htb : (lv.tmod 2 == 1) = false := by simpa using ht
   rw [Mi.gl_even (fun q => h1 q.2)]
   clear h1
   generalize (Ucd.mir r).1 = g at *
   generalize (Ucd.mir r).2 = b at *
   generalize hx : lv.tmod 2 = x at ht htb
   cases b
   ·go_enter Tryz.func40, Tryz.ntmps40
    go_wp2_with (go_at_call 67; refine HM.out.mono ?_; rintro e w1 ⟨rfl, hk1⟩; have HK := hide hk1; clear hk1)
    go_ret
    exact ⟨rfl, HK.out⟩
   ·go_enter Tryz.func40, Tryz.ntmps40
    go_wp2_with (go_at_call 67; refine HM.out.mono ?_; rintro e w1 ⟨rfl, hk1⟩; have HK := hide hk1; clear hk1)
    go_ret
    exact ⟨rfl, HK.out⟩
 ·rw [Mi.gl_even (fun q => h0 q.1)]
  generalize (Ucd.mir r).1 = g at *
  generalize (Ucd.mir r).2 = b at *
  have h2 : ¬ lv >= 0 := h0
  cases b
  ·go_enter Tryz.func40, Tryz.ntmps40
   go_wp2_with (go_at_call 67; refine HM.out.mono ?_; rintro e w1 ⟨rfl, hk1⟩; have HK := hide hk1; clear hk1)
   go_ret
   exact ⟨rfl, HK.out⟩
  ·go_enter Tryz.func40, Tryz.ntmps40
   go_wp2_with (go_at_call 67; refine HM.out.mono ?_; rintro e w1 ⟨rfl, hk1⟩; have HK := hide hk1; clear hk1)
   go_ret
   exact ⟨rfl, HK.out⟩
end Go.Proofs.YtfcoebbblfcdoaaGreatDoor

/- The document's Show, by contract. -/
namespace Go.Proofs.YtfcoebbblfcdoaaGreatDoor
open Go.RowKit
set_option linter.unusedVariables false
set_option maxHeartbeats 1600000
set_option maxRecDepth 100000
theorem rshow_any (al av : Option Addr) (n m cl cv : Nat) (l lv : List Int) (w : World) (hl : Row .i32 w al n cl l) (hv : Row .i64 w av m cv lv) (hm : m <= 100000) (S : List Int) (E : Int) (hA : SHA l lv S E) :
  Calls Tryz.prog 19 #[.slice al n cl, .slice av m cv] w fun e w' => ∃ a c, e = .returned (.tuple #[.slice a S.length c, .int .i64 E]) /\ Row .i32 w' a S.length c S /\ KO w w' := by
 have hll := hl.len
 have hvl := hv.len
 by_cases hnm : n = m
 ·subst hnm
  have hnn : ((n : Int) != (n : Int)) = false := by simp
  by_cases hf : Od.Fo lv
  ·rcases hA with ⟨_, _, hS, hE⟩ | ⟨h, _⟩
   ·subst hE
    have HR := hide (rorder_any av n cv lv w hv hm (Od.ON lv) 0 (.inl ⟨hf, rfl, rfl⟩))
    have HAT : Hid (∀ k, k < (Od.ON lv).length -> ∃ p : Nat, p < n /\ (Od.ON lv).getD k 0 = (p : Int) /\ S.take (k + 1) = S.take k ++ [Mi.gl (l.getD p 0) (lv.getD p 0)]) := hide (fun k hk => by
     rw [Od.ON_len] at hk
     refine ⟨(Od.OD lv).getD k 0, ?_, Od.ON_at hk, ?_⟩
     ·have := Od.OD_lt hf (Od.OD_in hk)
      omega
     ·rw [hS]
      exact Mi.SW_next hk)
    have HSL : Hid (S.length = (Od.ON lv).length) := hide (by rw [hS, Mi.SW_len, Od.ON_len])
    have hLn : (Od.ON lv).length <= n := by
     have h1 := Od.K_le lv
     rw [Od.ON_len, Od.OD_len]
     omega
    have HL := hide hl
    have HV := hide hv
    have HLl := hide hll
    have HVl := hide hvl
    obtain ⟨ii, hii, hy0, hy1, hy2⟩ := info_parts infoRune14
    have HII : Hid (Tryz.prog.info? 21 = some ii) := hii
    have HY0 := hide hy0
    have HY1 := hide hy1
    have HY2 := hide hy2
    clear hS hl hv hf hll hvl hii hy0 hy1 hy2
    generalize Od.ON lv = L at *
    obtain ⟨M, hM⟩ : ∃ M, L.length = M := ⟨_, rfl⟩
    rw [hM] at HR HAT hLn HSL
    have HM := hide hM
    clear hM
    rw [HSL.out]
    go_enter Tryz.func19, Tryz.ntmps19
    go_wp2_with (go_at_call 39; refine HR.out.mono ?_; rintro e w1 ⟨ap, cp, rfl, hp1, hk1⟩; have HP := hide hp1; have HK1 := hide hk1; clear hp1 hk1)
    go_loopw [8, 9] (fun s8 s9 W => ∃ (va : Value) (k : Nat), va = s8 /\ s9 = .int .i64 (k : Int) /\ k <= M /\ Hid (W.ownsRow w1.heap.size 21 1 va k ((S.take k).map (Value.int .i32))) /\ Hid (KO w1 W)) (fun _ s9 _ => M - (intOf s9).toNat)
    case atStart => exact ⟨_, 0, rfl, rfl, Nat.zero_le _, hide (World.ownsRow_nil _ _ _ _), hide (KO.refl _)⟩
    case round =>
     obtain ⟨va, k, hva, rfl, hk, hown, hkw⟩ := hrel
     subst hva
     by_cases hlt : k < M
     ·have hin : (k : Int) < (M : Int) := by omega
      obtain ⟨p, hp1, hp2, hp4⟩ := HAT.out k hlt
      obtain ⟨bp, op, ep, hbp, hcp⟩ := HP.out.cells (by omega)
      subst ep
      obtain ⟨bl, ol, el, hbl, hcl⟩ := HL.out.cells (by omega)
      subst el
      obtain ⟨bv, ov, ev, hbv, hcv⟩ := HV.out.cells (by omega)
      subst ev
      have c5 := hcp k (by rw [HM.out]; exact hlt)
      rw [hp2] at c5
      have cl0 := (Below.cell HK1.out (by exact hbl)).trans (hcl p (by rw [HLl.out]; exact hp1))
      have cv0 := (Below.cell HK1.out (by exact hbv)).trans (hcv p (by rw [HVl.out]; exact hp1))
      have hsz := HK1.out.size
      have hpn : (p : Int) < (n : Int) := by omega
      have hcP : ∀ W, KO w1 W -> W.cell? ⟨bp, op + k, none⟩ = some (.int .i64 (p : Int)) := fun W hk => (Below.cell hk (by exact hbp)).trans c5
      have hcL : ∀ W, KO w1 W -> W.cell? ⟨bl, ol + p, none⟩ = some (.int .i32 (l.getD p 0)) := fun W hk => (Below.cell hk (by show bl < _; omega)).trans cl0
      have hcV : ∀ W, KO w1 W -> W.cell? ⟨bv, ov + p, none⟩ = some (.int .i64 (lv.getD p 0)) := fun W hk => (Below.cell hk (by show bv < _; omega)).trans cv0
      have hK0 : KO w1 wr := hkw.out
      have hKd : KO w1 wr.drew := KO.drew hkw.out
      have HG := hide (rglyph_any (l.getD p 0) (lv.getD p 0) wr.drew)
      have HP4 := hide hp4
      have hs1 : w1.heap.size <= wr.heap.size := hkw.out.size
      clear hcp hcl hcv cl0 cv0 hp2 hp4 c5
      generalize Mi.gl (l.getD p 0) (lv.getD p 0) = g at *
      generalize l.getD p 0 = x at *
      generalize lv.getD p 0 = y at *
      go_wp2
      refine wp_region_noPanic ?_
      go_region_held_law (fun w' => KO w1 w') (first | assumption | exact KO.alloc (by assumption) _)
       (first
        | (go_at_call 40; refine HG.out.mono ?_; rintro e w5 ⟨rfl, hk5⟩; have hk5' : KO w1 w5 := KO.on hKd hk5)
        | (refine step_append_row _ rfl (.tmp 29) (.tmp 45) 23 rfl w1.heap.size 21 ii (.int .i32 0) 4 Tryz.underlying23 HII.out HY0.out HY1.out HY2.out rfl _ k _ rfl ((owns_below (World.ownsRow.drew hown.out) hk5).alloc _) .i32 _ 1 1 [g] rfl (row_lit .i32 w5 [g] 21 (by unfold maxLen; simp)) (by omega) (by omega) (by have := hk5'.size; simp; omega) ?_; intro v6 w6 ho6 hb6; have hk6 : KO w1 w6 := Below.trans (KO.alloc hk5' _) hb6))
      all_goals (
       refine NoPanic.normal ?_
       go_simp
       have HM6 := hide (show w6.ownsRow w1.heap.size 21 1 v6 (k + 1) ((S.take (k + 1)).map (Value.int .i32)) from by rw [HP4.out, List.map_append]; exact ho6)
       have HK6 := hide hk6
       clear ho6 hb6 hk6 hk5 hk5' hKd hK0 hcL hcV hcP
       go_wp2
       go_roundw
       case rel => exact ⟨_, k + 1, rfl, by go_num, by omega, HM6, HK6⟩
       case measure => simp [intOf]; omega)
     ·obtain rfl : M = k := by omega
      have hne : ¬ (M : Int) < (M : Int) := by omega
      have hSt : S.take M = S := by rw [<- HSL.out, List.take_length]
      have ho := hown.out
      rw [hSt] at ho
      obtain ⟨a6, c6, ev6, hr6⟩ := row_of_owns ho
      subst ev6
      have HR6 := hide hr6
      have HK6 := hide (KO.on HK1.out hkw.out)
      clear ho hown hkw hr6 hSt
      go_wp2
      go_ret2
      exact ⟨a6, c6, rfl, HR6.out, HK6.out⟩
   ·exact absurd ⟨by rw [hll, hvl], hf⟩ h
  ·rcases hA with ⟨_, h, _⟩ | ⟨_, rfl, rfl⟩
   ·exact absurd h hf
   ·have HR := hide (rorder_any av n cv lv w hv hm [] 2 (.inr ⟨hf, rfl, rfl⟩))
    clear hl hv hf hll hvl
    go_enter Tryz.func19, Tryz.ntmps19
    go_wp2_with (go_at_call 39; refine HR.out.mono ?_; rintro e w1 ⟨a, c, rfl, hr1, hk1⟩; have HK1 := hide hk1; clear hk1 hr1)
    go_ret2
    exact ⟨none, 0, rfl, row_nil _ _, HK1.out⟩
 ·have hnn : ((n : Int) != (m : Int)) = true := bne_iff_ne.2 (by omega)
  rcases hA with ⟨h, _⟩ | ⟨_, rfl, rfl⟩
  ·exact absurd (by rw [<- hll, <- hvl]; exact h) hnm
  ·clear hl hv hll hvl
   go_enter Tryz.func19, Tryz.ntmps19
   go_wp2
   go_ret2
   exact ⟨none, 0, rfl, row_nil _ _, KO.refl _⟩
end Go.Proofs.YtfcoebbblfcdoaaGreatDoor

/- A paragraph as one line, and what is shown of it: the law's two helpers, by contract. -/
namespace Go.Proofs.YtfcoebbblfcdoaaGreatDoor
open Go.RowKit
set_option linter.unusedVariables false
set_option maxHeartbeats 1600000
set_option maxRecDepth 100000
theorem results_tmp4 {fn : Func} {t u v x : Tmp} (h : fn.results = #[.tmp t, .tmp u, .tmp v, .tmp x]) (tmps : Array Value) (P : Program) (w : World) :
  (results fn tmps).run P w = .ok (.tuple #[tmps.getD t undef, tmps.getD u undef, tmps.getD v undef, tmps.getD x undef]) w := by
 simp [results, h]
theorem tline_any (ao : Option Addr) (n cap : Nat) (l : List Int) (base : Int) (w : World) (h : Row .i32 w ao n cap l) (hf : ∀ x ∈ l, (Lit.int .i32 x).wf = true) (hM : Marks w) (hn : n <= 300) (m : Int) (X S : List Int) (E : Int) (hA : TA l base m X S E) :
  Calls Tryz.prog 8 #[.slice ao n cap, .int .i64 base] w fun e w' => ∃ a c, e = .returned (.tuple #[.slice a X.length c, .int .i64 m, .int .i64 E]) /\ Row .i64 w' a X.length c X /\ KO w w' := by
 by_cases hE : E = 0
 ·subst hE
  have hl := h.len
  have hXn : X.length = n := by rw [(TA_show hA).1, hl]
  obtain ⟨L, hPA, ⟨_, hX, _⟩ | ⟨h0, _⟩⟩ := hA
  ·have hF := top_facts hPA
   have hLn : L.length = n := by rw [hF.len, hl]
   have HP := hide (paragraph_any ao n cap l base w h hf hM (by omega) m L 0 hPA)
   have HC := hide (fun (W : World) (hk : KO w W) => classes_any ao n cap l W (h.below hk) hf (by omega))
   have HL := hide (fun (ac al : Option Addr) (cc cl : Nat) (W : World) (hc : Row .i64 W ac n cc (Rn.cl l)) (hl : Row .i64 W al n cl L) =>
    show Calls Tryz.prog 21 #[.slice ac n cc, .slice al n cl, .int .i64 m, .int .i64 0, .int .i64 (n : Int)] W _ from line_ok ac al n cc cl 0 n (Rn.cl l) L m W hc hl ⟨rfl, by have := hF.two; omega, by have := hF.two; omega, hF.fo⟩ (Nat.zero_le _) (Nat.le_refl _) (by omega))
   rw [TL_line hF hl, <- hX] at HL
   unfold RPA at HP
   rw [hLn] at HP
   have HXn := hide hXn
   clear hX hPA hF h hf hM hl hLn
   generalize Rn.cl l = C at *
   rw [HXn.out]
   clear hXn
   go_enter Tryz.func8, Tryz.ntmps8
   go_wp2_with fail
   refine HP.out.mono ?_
   rintro e w1 ⟨a1, c1, rfl, hr1, hk1⟩
   have HK1 := hide hk1
   have HR1 := hide hr1
   have HC1 := hide (HC.out w1 hk1)
   clear hr1 hk1 HP HC
   go_wp2_with fail
   refine HC1.out.mono ?_
   rintro e w2 ⟨rfl, hnr⟩
   have HK2 := hide (KO.on HK1.out hnr.bel)
   have HL2 := hide (HL.out _ _ _ _ w2 hnr.row (HR1.out.below hnr.bel))
   clear hnr HC1 HL
   go_wp2_with fail
   refine HL2.out.mono ?_
   rintro e w3 ⟨v, rfl, ho, hk3⟩
   obtain ⟨a3, c3, ev, hr3⟩ := row_any ho
   rw [HXn.out] at ev hr3
   subst ev
   have HK3 := hide (KO.on HK2.out hk3)
   have HR3 := hide hr3
   clear ho hk3 hr3 HL2
   go_wp2
   go_ret3
   exact ⟨a3, c3, rfl, HR3.out, HK3.out⟩
  ·exact absurd rfl h0
 ·obtain ⟨hm, hX, _⟩ := TA_no hA hE
  obtain ⟨L, hPA, _⟩ := hA
  have HP := hide (paragraph_any ao n cap l base w h hf hM (by omega) m L E hPA)
  have hEb : (E != 0) = true := bne_iff_ne.2 hE
  unfold RPA at HP
  subst hm hX
  clear hPA h hf hM
  generalize L.length = N at *
  go_enter Tryz.func8, Tryz.ntmps8
  go_wp2_with fail
  refine HP.out.mono ?_
  rintro e w1 ⟨a1, c1, rfl, hr1, hk1⟩
  have HK1 := hide hk1
  clear hr1 hk1 HP
  go_wp2
  go_ret3
  exact ⟨none, 0, rfl, row_nil _ _, HK1.out⟩
theorem tshown_any (ao : Option Addr) (n cap : Nat) (l : List Int) (base : Int) (w : World) (h : Row .i32 w ao n cap l) (hf : ∀ x ∈ l, (Lit.int .i32 x).wf = true) (hn : n <= 300) (m : Int) (X S : List Int) (E : Int) (hA : TA l base m X S E) :
  Calls Tryz.prog 7 #[.slice ao n cap, .int .i64 base] w fun e w' => ∃ a c b d, e = .returned (.tuple #[.slice b S.length d, .slice a X.length c, .int .i64 m, .int .i64 E]) /\ Row .i64 w' a X.length c X /\ Row .i32 w' b S.length d S /\ KO w w' := by
 by_cases hE : E = 0
 ·subst hE
  have hl := h.len
  have hTS := TA_show hA
  have hXn : X.length = n := by rw [hTS.1, hl]
  obtain ⟨L, hPA, ⟨_, hX, _⟩ | ⟨h0, _⟩⟩ := hA
  ·have hF := top_facts hPA
   have hLn : L.length = n := by rw [hF.len, hl]
   have HP := hide (rparagraph12_any ao n cap l base w h hf (by omega) m L 0 hPA)
   have HC := hide (fun (W : World) (hk : KO w W) => rclasses_any ao n cap l W (h.below hk) hf (by omega))
   have HL := hide (fun (ac al : Option Addr) (cc cl : Nat) (W : World) (hc : Row .i64 W ac n cc (Rn.cl l)) (hl : Row .i64 W al n cl L) =>
    show Calls Tryz.prog 17 #[.slice ac n cc, .slice al n cl, .int .i64 m, .int .i64 0, .int .i64 (n : Int)] W _ from rline_ok ac al n cc cl 0 n (Rn.cl l) L m W hc hl ⟨rfl, by have := hF.two; omega, by have := hF.two; omega, hF.fo⟩ (Nat.zero_le _) (Nat.le_refl _) (by omega))
   have hX2 : Od.LI (Rn.cl l) L m 0 n = X := by rw [hX, <- hl]; rfl
   rw [hX2] at HL
   have HS := hide (fun (ax : Option Addr) (cx : Nat) (W : World) (hk : KO w W) (hx : Row .i64 W ax n cx X) => rshow_any ao ax n n cap cx l X W (h.below hk) hx (by omega) S 0 hTS.2.2)
   unfold RPA at HP
   rw [hLn] at HP
   have HXn := hide hXn
   clear hX hX2 hPA hF h hf hl hLn hTS
   generalize Rn.cl l = C at *
   rw [HXn.out]
   clear hXn
   obtain ⟨N, hN⟩ : ∃ N, S.length = N := ⟨_, rfl⟩
   rw [hN] at HS ⊢
   clear hN
   go_enter Tryz.func7, Tryz.ntmps7
   go_wp2_with fail
   refine HP.out.mono ?_
   rintro e w1 ⟨a1, c1, rfl, hr1, hk1⟩
   have HK1 := hide hk1
   have HR1 := hide hr1
   have HC1 := hide (HC.out w1 hk1)
   clear hr1 hk1 HP HC
   go_wp2_with fail
   refine HC1.out.mono ?_
   rintro e w2 ⟨a2, c2, rfl, hr2, hk2⟩
   have HK2 := hide (KO.on HK1.out hk2)
   have HL2 := hide (HL.out _ _ _ _ w2 hr2 (HR1.out.below hk2))
   clear hr2 hk2 HC1 HL
   go_wp2_with fail
   refine HL2.out.mono ?_
   rintro e w3 ⟨v, rfl, ho, hk3⟩
   obtain ⟨a3, c3, ev, hr3⟩ := row_any ho
   rw [HXn.out] at ev hr3
   subst ev
   have HK3 := hide (KO.on HK2.out hk3)
   have HR3 := hide hr3
   have HS3 := hide (HS.out a3 c3 w3 (KO.on HK2.out hk3) hr3)
   clear ho hk3 hr3 HL2 HS
   go_wp2_with fail
   refine HS3.out.mono ?_
   rintro e w4 ⟨a4, c4, rfl, hr4, hk4⟩
   have HK4 := hide (KO.on HK3.out hk4)
   have HR4 := hide hr4
   have HR34 := hide (HR3.out.below hk4)
   clear hr4 hk4 HS3
   go_wp2
   ((try simp only [Exit.inBlock, Exit.then]); refine bodyPost_ret (results_tmp4 rfl _ _ _) rfl ?_)
   exact ⟨a3, c3, a4, c4, rfl, HR34.out, HR4.out, HK4.out⟩
  ·exact absurd rfl h0
 ·obtain ⟨hm, hX, hS⟩ := TA_no hA hE
  obtain ⟨L, hPA, _⟩ := hA
  have HP := hide (rparagraph12_any ao n cap l base w h hf (by omega) m L E hPA)
  have hEb : (E != 0) = true := bne_iff_ne.2 hE
  unfold RPA at HP
  subst hm hX hS
  clear hPA h hf
  generalize L.length = N at *
  go_enter Tryz.func7, Tryz.ntmps7
  go_wp2_with fail
  refine HP.out.mono ?_
  rintro e w1 ⟨a1, c1, rfl, hr1, hk1⟩
  have HK1 := hide hk1
  clear hr1 hk1 HP
  go_wp2
  ((try simp only [Exit.inBlock, Exit.then]); refine bodyPost_ret (results_tmp4 rfl _ _ _) rfl ?_)
  exact ⟨none, 0, none, 0, rfl, row_nil _ _, row_nil _ _, HK1.out⟩
end Go.Proofs.YtfcoebbblfcdoaaGreatDoor
