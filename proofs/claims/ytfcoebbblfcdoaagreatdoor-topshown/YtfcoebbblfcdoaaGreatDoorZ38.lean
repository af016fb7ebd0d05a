import Derived.Test.YtfcoebbblfcdoaaGreatDoorZ29
import Derived.Test.YtfcoebbblfcdoaaGreatDoorZ25
import Derived.Deep.RegionWith
import Derived.Test.YtfcoebbblfcdoaaGreatDoorZ31
import Derived.Test.YtfcoebbblfcdoaaGreatDoorZ35
import Derived.Test.YtfcoebbblfcdoaaGreatDoorZ30
import Derived.Test.YtfcoebbblfcdoaaGreatDoorZ37
/- The document's answer (colophonref10: Side, May; colophonref11: side, Resolve). -/
namespace Go.Proofs.YtfcoebbblfcdoaaGreatDoor
open Go.RowKit
set_option linter.unusedVariables false
set_option maxHeartbeats 1000000
set_option maxRecDepth 100000
theorem side_cases2 (x : Int) : (x = 1) \/ (¬ x = 1 /\ x = 2) \/ (¬ x = 1 /\ ¬ x = 2 /\ x = 4) \/ (¬ x = 1 /\ ¬ x = 2 /\ ¬ x = 4 /\ x = 7) \/ (¬ x = 1 /\ ¬ x = 2 /\ ¬ x = 4 /\ ¬ x = 7) := by omega
theorem ndside_any (x : Int) (w : World) : Calls Tryz.prog 97 #[.int .i64 x] w fun e w' => e = .returned (.int .i64 (Ne.sd x)) /\ w = w' := by
 rcases side_cases2 x with rfl | ⟨h1, rfl⟩ | ⟨h1, h2, rfl⟩ | ⟨h1, h2, h3, rfl⟩ | ⟨h1, h2, h3, h4⟩
 rotate_left 4
 ·have e : Ne.sd x = 0 := by simp [Ne.sd, h1, h2, h3, h4]
  rw [e]; clear e
  have b2 : (x == 2) = false := beq_false_of_ne h2
  have b4 : (x == 4) = false := beq_false_of_ne h3
  have b7 : (x == 7) = false := beq_false_of_ne h4
  go_enter Tryz.func97, Tryz.ntmps97
  go_wp2
  go_ret
  exact ⟨rfl, rfl⟩
 all_goals
  go_enter Tryz.func97, Tryz.ntmps97
  go_wp2
  go_ret
  exact ⟨rfl, rfl⟩
theorem ndmay_any (x : Int) (w : World) : Calls Tryz.prog 94 #[.int .i64 x] w fun e w' => e = .returned (.bool (decide (Ne.May x))) /\ w = w' := by
 have HS := hide (fun w' => ndside_any x w')
 rcases nmay_tests x with ⟨hm, e1⟩ | ⟨hm, e1, e2⟩ | ⟨hm, e1, e2⟩
 ·rw [decide_eq_true hm]
  generalize Ne.sd x = y at *
  clear hm
  go_enter Tryz.func94, Tryz.ntmps94
  go_wp2_with (go_at_call 97; refine (HS.out _).mono ?_; rintro e w' ⟨rfl, rfl⟩)
  go_ret
  exact ⟨rfl, rfl⟩
 ·rw [decide_eq_true hm]
  generalize Ne.sd x = y at *
  clear hm
  rcases neu_cases x with rfl | ⟨h1, rfl⟩ | ⟨h1, h2, rfl⟩ | ⟨h1, h2, h3, rfl⟩ | ⟨h1, h2, h3, h4, rfl⟩ | ⟨h1, h2, h3, h4, h5, rfl⟩ | ⟨h1, h2, h3, h4, h5, h6, rfl⟩ | ⟨h1, h2, h3, h4, h5, h6, h7, rfl⟩ | ⟨h1, h2, h3, h4, h5, h6, h7, h8⟩
  rotate_left 8
  ·exact absurd e2 (by simp [Ne.neu, h1, h2, h3, h4, h5, h6, h7, h8])
  all_goals
   clear e2
   go_enter Tryz.func94, Tryz.ntmps94
   go_wp2_with (go_at_call 97; refine (HS.out _).mono ?_; rintro e w' ⟨rfl, rfl⟩)
   go_ret
   exact ⟨rfl, rfl⟩
 ·rw [decide_eq_false hm]
  have h : ¬ x = 11 /\ ¬ x = 12 /\ ¬ x = 13 /\ ¬ x = 14 /\ ¬ x = 20 /\ ¬ x = 21 /\ ¬ x = 22 /\ ¬ x = 23 := by
   rcases neu_cases x with rfl | ⟨h1, rfl⟩ | ⟨h1, h2, rfl⟩ | ⟨h1, h2, h3, rfl⟩ | ⟨h1, h2, h3, h4, rfl⟩ | ⟨h1, h2, h3, h4, h5, rfl⟩ | ⟨h1, h2, h3, h4, h5, h6, rfl⟩ | ⟨h1, h2, h3, h4, h5, h6, h7, rfl⟩ | ⟨h1, h2, h3, h4, h5, h6, h7, h8⟩
   rotate_left 8
   ·exact ⟨h1, h2, h3, h4, h5, h6, h7, h8⟩
   all_goals exact absurd e2 (by decide)
  obtain ⟨h1, h2, h3, h4, h5, h6, h7, h8⟩ := h
  generalize Ne.sd x = y at *
  clear hm e2
  go_enter Tryz.func94, Tryz.ntmps94
  go_wp2_with (go_at_call 97; refine (HS.out _).mono ?_; rintro e w' ⟨rfl, rfl⟩)
  go_ret
  exact ⟨ret_bool (by simp [h1, h2, h3, h4, h5, h6, h7, h8]), rfl⟩
theorem rdown_any (ao : Option Addr) (n cap : Nat) (t : List Int) (s : Int) (i : Nat) (w : World) (h : Row .i64 w ao n cap t) (hi : i <= n) (hn : n <= 17592186044416) :
  Calls Tryz.prog 98 #[.slice ao n cap, .int .i64 (i : Int), .int .i64 (-1), .int .i64 s] w fun e w' => e = .returned (.int .i64 (Ne.ah t s i)) /\ w = w' := by
 have H := hide h
 have HLEN := hide h.len
 have e1 : wrap64 ((i : Int) + -1) = (i : Int) - 1 := w64_small (by omega) (by omega)
 clear h
 go_enter Tryz.func98, Tryz.ntmps98
 go_wp2
 go_loopw [9] (fun v wr => ∃ j : Nat, v = .int .i64 ((j : Int) - 1) /\ j <= i /\ Hid (Ne.ah t s i = Ne.ah t s j) /\ w = wr) (fun v _ => (intOf v + 1).toNat)
 case atStart => exact ⟨i, by first | rfl | (congr 1), Nat.le_refl _, hide rfl, rfl⟩
 case round =>
  obtain ⟨j, rfl, hj, HA, rfl⟩ := hrel
  cases j with
  | zero =>
   have HE : Hid (Ne.ah t s i = s) := hide (by rw [HA.out]; rfl)
   clear HA e1
   go_wp2
   go_ret
   exact ⟨ret_int HE.out.symm, rfl⟩
  | succ j =>
   obtain ⟨b, off, rfl, hbl, hc⟩ := H.out.cells (by omega)
   have cj := hc j (by rw [HLEN.out]; omega)
   have h0 : (0 : Int) <= (j : Int) := by omega
   have h1 : (j : Int) < (n : Int) := by omega
   have hji : ((j + 1 : Nat) : Int) - 1 = (j : Int) := by omega
   rw [hji]
   have e2 : wrap64 ((j : Int) + -1) = (j : Int) - 1 := w64_small (by omega) (by omega)
   have HS := hide (fun w' => ndside_any (t.getD j 0) w')
   have hah := HA.out
   rw [Ne.ah_succ] at hah
   by_cases hs : Ne.sd (t.getD j 0) = 0
   ·rw [if_pos hs] at hah
    have HE := hide hah
    rw [hs] at HS
    clear HA hs hc hbl hah e1
    generalize t.getD j 0 = x at *
    go_wp2_with (go_at_call 97; refine (HS.out _).mono ?_; rintro e w' ⟨rfl, rfl⟩)
    go_roundw
    case rel => exact ⟨j, by first | rfl | (congr 1), by omega, HE, trivial⟩
    case measure => first | (simp [intOf]; done) | (simp [intOf]; omega)
   ·rw [if_neg hs] at hah
    have HE := hide hah
    clear HA hc hbl hah e1
    generalize t.getD j 0 = x at *
    generalize Ne.sd x = y at *
    have hy : (y != 0) = true := bne_iff_ne.2 hs
    go_wp2_with (go_at_call 97; refine (HS.out _).mono ?_; rintro e w' ⟨rfl, rfl⟩)
    go_ret
    exact ⟨ret_int HE.out.symm, rfl⟩
theorem rup_any (ao : Option Addr) (n cap : Nat) (t : List Int) (s : Int) (i : Nat) (w : World) (h : Row .i64 w ao n cap t) (hi : i < n) (hn : n <= 17592186044416) :
  Calls Tryz.prog 98 #[.slice ao n cap, .int .i64 (i : Int), .int .i64 1, .int .i64 s] w fun e w' => e = .returned (.int .i64 (Ne.ah t.reverse s (n - 1 - i))) /\ w = w' := by
 have H := hide h
 have HLEN := hide h.len
 clear h
 go_enter Tryz.func98, Tryz.ntmps98
 go_wp2
 go_loopw [9] (fun v wr => ∃ j : Nat, v = .int .i64 (j : Int) /\ i < j /\ j <= n /\ Hid (Ne.ah t.reverse s (n - 1 - i) = Ne.ah t.reverse s (n - j)) /\ w = wr) (fun v _ => n - (intOf v).toNat)
 case atStart => exact ⟨i + 1, by go_num, by omega, by omega, hide (by rw [show n - 1 - i = n - (i + 1) by omega]), rfl⟩
 case round =>
  obtain ⟨j, rfl, hj1, hj2, HA, rfl⟩ := hrel
  have h0 : (0 : Int) <= (j : Int) := by omega
  by_cases hlt : j < n
  ·obtain ⟨b, off, rfl, hbl, hc⟩ := H.out.cells (by omega)
   have cj := hc j (by rw [HLEN.out]; omega)
   have h1 : (j : Int) < (n : Int) := by omega
   have HS := hide (fun w' => ndside_any (t.getD j 0) w')
   have hah := HA.out
   rw [show n - j = (n - 1 - j) + 1 by omega, Ne.ah_succ, Ne.getD_rev t (by rw [HLEN.out]; omega), show t.length - 1 - (n - 1 - j) = j by rw [HLEN.out]; omega] at hah
   have HM := hide (meas_n0 n j hlt)
   by_cases hs : Ne.sd (t.getD j 0) = 0
   ·rw [if_pos hs] at hah
    have HE := hide (show Ne.ah t.reverse s (n - 1 - i) = Ne.ah t.reverse s (n - (j + 1)) from by rw [hah, show n - (j + 1) = n - 1 - j by omega])
    rw [hs] at HS
    clear HA hs hc hbl hah
    generalize t.getD j 0 = x at *
    go_wp2_with (go_at_call 97; refine (HS.out _).mono ?_; rintro e w' ⟨rfl, rfl⟩)
    go_roundw
    case rel => exact ⟨j + 1, by go_num, by omega, by omega, HE, trivial⟩
    case measure => exact HM.out
   ·rw [if_neg hs] at hah
    have HE := hide hah
    clear HA hc hbl hah
    generalize t.getD j 0 = x at *
    generalize Ne.sd x = y at *
    have hy : (y != 0) = true := bne_iff_ne.2 hs
    go_wp2_with (go_at_call 97; refine (HS.out _).mono ?_; rintro e w' ⟨rfl, rfl⟩)
    go_ret
    exact ⟨ret_int HE.out.symm, rfl⟩
  ·obtain rfl : j = n := by omega
   have h1 : ¬ (j : Int) < (j : Int) := by omega
   have HE : Hid (Ne.ah t.reverse s (j - 1 - i) = s) := hide (by rw [HA.out, Nat.sub_self]; rfl)
   clear HA hlt
   go_wp2
   go_ret
   exact ⟨ret_int HE.out.symm, rfl⟩
theorem rresolve_bad (ao : Option Addr) (n cap : Nat) (lv so eo : Int) (w : World) (hb : ¬ Ne.Good lv so eo) :
  Calls Tryz.prog 62 #[.slice ao n cap, .int .i64 lv, .int .i64 so, .int .i64 eo] w fun e w' => e = .returned (.tuple #[.slice none 0 0, .int .i64 2]) /\ w = w' := by
 have hc : (lv < 0) \/ (¬ lv < 0 /\ 126 < lv) \/ (¬ lv < 0 /\ ¬ 126 < lv /\ so < 1) \/ (¬ lv < 0 /\ ¬ 126 < lv /\ ¬ so < 1 /\ 2 < so) \/ (¬ lv < 0 /\ ¬ 126 < lv /\ ¬ so < 1 /\ ¬ 2 < so /\ eo < 1) \/ (¬ lv < 0 /\ ¬ 126 < lv /\ ¬ so < 1 /\ ¬ 2 < so /\ ¬ eo < 1 /\ 2 < eo) := by
  unfold Ne.Good at hb; omega
 clear hb
 rcases hc with h1 | ⟨h1, h2⟩ | ⟨h1, h2, h3⟩ | ⟨h1, h2, h3, h4⟩ | ⟨h1, h2, h3, h4, h5⟩ | ⟨h1, h2, h3, h4, h5, h6⟩
 all_goals
  go_enter Tryz.func62, Tryz.ntmps62
  go_wp2
  go_ret2
  exact ⟨rfl, rfl⟩
namespace Ne
def RT (t : List Int) (lv so eo : Int) (k : Nat) : List Int := (List.range k).map (r1 t lv so eo)
theorem RT_succ (t : List Int) (lv so eo : Int) (k : Nat) : RT t lv so eo (k + 1) = RT t lv so eo k ++ [r1 t lv so eo k] := by simp [RT, List.range_succ]
theorem r1_side {t : List Int} {lv so eo : Int} {k : Nat} (h : sd (t.getD k 0) ≠ 0) : r1 t lv so eo k = t.getD k 0 := by unfold r1; rw [if_neg h]
theorem r1_neu {t : List Int} {lv so eo : Int} {k : Nat} (hk : k < t.length) (h : sd (t.getD k 0) = 0) : r1 t lv so eo k = if ah t so k = ah t.reverse eo (t.length - 1 - k) then ah t so k else es lv := by
 unfold r1
 have e1 : ah t so (k + 1) = ah t so k := by rw [ah_succ, if_pos h]
 have e2 : ah t.reverse eo (t.length - k) = ah t.reverse eo (t.length - 1 - k) := by
  rw [show t.length - k = (t.length - 1 - k) + 1 by omega, ah_succ, getD_rev t (by omega), show t.length - 1 - (t.length - 1 - k) = k by omega, if_pos h]
 rw [if_pos h, e1, e2]
end Ne
theorem rresolve_go (ao : Option Addr) (n cap : Nat) (lv so eo : Int) (t : List Int) (w : World) (h : Row .i64 w ao n cap t) (hn : n <= 500) (hg : Ne.Good lv so eo) (L : List Int) (E : Int) (hA : (¬ Ne.Ok t /\ L = [] /\ E = 50) \/ (Ne.Ok t /\ L = Ne.RS t lv so eo /\ E = 0)) :
  Calls Tryz.prog 62 #[.slice ao n cap, .int .i64 lv, .int .i64 so, .int .i64 eo] w fun e w' => ∃ a1 c1, e = .returned (.tuple #[.slice a1 L.length c1, .int .i64 E]) /\ Row .i64 w' a1 L.length c1 L /\ KO w w' := by
 obtain ⟨ii, hii, hy0, hy1, hy2⟩ := info_parts infoInt
 have HII : Hid (Tryz.prog.info? 3 = some ii) := hii
 have HY0 := hide hy0
 have HY1 := hide hy1
 have HY2 := hide hy2
 have H := hide h
 have HLEN := hide h.len
 have HA := hide hA
 have h1 : ¬ lv < 0 := by have := hg.1; omega
 have h2 : ¬ 126 < lv := by have := hg.2.1; omega
 have h3 : ¬ so < 1 := by have := hg.2.2.1; omega
 have h4 : ¬ 2 < so := by have := hg.2.2.1; omega
 have h5 : ¬ eo < 1 := by have := hg.2.2.2; omega
 have h6 : ¬ 2 < eo := by have := hg.2.2.2; omega
 have htm : lv.tmod 2 = lv % 2 := Int.tmod_eq_emod_of_nonneg hg.1
 have hes : (lv % 2 = 1 /\ Ne.es lv = 2) \/ (lv % 2 = 0 /\ Ne.es lv = 1) := by
  have : lv % 2 = 1 \/ lv % 2 = 0 := by omega
  unfold Ne.es
  rcases this with h | h
  ·rw [if_pos h]; omega
  ·rw [if_neg (by omega)]; omega
 have HES := hide hes
 clear h hA hg hii hy0 hy1 hy2 hes
 go_enter Tryz.func62, Tryz.ntmps62
 go_wp2
 go_loopw [10, 11] (fun v10 v11 wr => ∃ k : Nat, k <= n /\ v11 = .int .i64 (k : Int) /\ Hid (∀ i, i < k -> Ne.May (t.getD i 0)) /\ Hid (RG w (Ne.RT t lv so eo k) k v10 wr)) (fun _ v11 _ => n - (intOf v11).toNat)
 case atStart => exact ⟨0, Nat.zero_le _, rfl, hide (fun i hi => by omega), ⟨World.ownsRow_nil _ _ _ _, Below.refl _ _⟩⟩
 case round =>
  obtain ⟨k, hk, rfl, hall, gm⟩ := hrel
  by_cases hlt : k < n
  ·have hin : (k : Int) < (n : Int) := by omega
   have HR := hide (H.out.below gm.out.bel)
   obtain ⟨b, off, rfl, hbl, hc⟩ := HR.out.cells (by omega)
   have ck := hc k (by rw [HLEN.out]; exact hlt)
   have HD := hide (fun w' => ndmay_any (t.getD k 0) w')
   by_cases hm : Ne.May (t.getD k 0)
   ·rw [decide_eq_true hm] at HD
    have HAL := hide (show ∀ i, i < k + 1 -> Ne.May (t.getD i 0) from fun i hi => by
     by_cases e : i = k
     ·subst e; exact hm
     ·exact hall.out i (by omega))
    have HS := hide (fun w' => ndside_any (t.getD k 0) w')
    have HSN := hide (fun (x : Int) (v2 : Value) (w2 : World) (o : Obj) (hx : Ne.r1 t lv so eo k = x) => RG.snoc (w := w) (zs := Ne.RT t lv so eo k) (ys := Ne.RT t lv so eo (k + 1)) (k := k) (x := x) (v2 := v2) (wr := wr) (w2 := w2) (o := o) gm.out.bel (hy := by rw [Ne.RT_succ, hx]))
    have HOW := hide gm.out.own
    have hsz := gm.out.bel.size
    have HM := hide (meas_n0 n k hlt)
    clear hall hm hc hbl gm
    by_cases hs : Ne.sd (t.getD k 0) = 0
    ·have hr := Ne.r1_neu (lv := lv) (so := so) (eo := eo) (show k < t.length by rw [HLEN.out]; exact hlt) hs
     rw [HLEN.out] at hr
     have HDN := hide (rdown_any _ n cap t so k wr HR.out hk (by omega))
     have HUP := hide (rup_any _ n cap t eo k wr HR.out hlt (by omega))
     rw [hs] at HS
     clear hs
     generalize t.getD k 0 = x at *
     generalize Ne.ah t so k = u at *
     generalize Ne.ah t.reverse eo (n - 1 - k) = v at *
     by_cases huv : u = v
     ·rw [if_pos huv] at hr
      subst huv
      have HX := hide (fun v2 w2 o => HSN.out u v2 w2 o hr)
      clear hr HSN
      go_wp2_with (first | (go_at_call 94; refine (HD.out _).mono ?_; rintro e w' ⟨rfl, rfl⟩) | (go_at_call 97; refine (HS.out _).mono ?_; rintro e w' ⟨rfl, rfl⟩))
      refine HDN.out.mono ?_
      rintro e w' ⟨rfl, rfl⟩
      go_wp2_with fail
      refine HUP.out.mono ?_
      rintro e w' ⟨rfl, rfl⟩
      go_wp2_with (at_builtin; refine wpList_append_row _ rfl (.tmp 67) (.tmp 69) 30 rfl w.heap.size 3 ii (.int .i64 0) 8 Tryz.underlying30 HII.out HY0.out HY1.out HY2.out rfl _ k _ rfl (HOW.out.alloc _) .i64 _ 1 1 [u] rfl (row_one _ wr.heap.size rfl u) (by omega) (by omega) (by simp; omega) ?_; intro v2 w2 hown2 hb2)
      have HMM := hide (HX.out v2 w2 _ hb2 hown2)
      clear hown2 hb2 HX HOW
      go_roundw
      case rel => exact ⟨k + 1, by omega, by go_num, HAL, HMM⟩
      case measure => exact HM.out
     ·rw [if_neg huv] at hr
      have huv2 : (u != v) = true := bne_iff_ne.2 huv
      rcases HES.out with ⟨hp, he⟩ | ⟨hp, he⟩
      ·rw [he] at hr
       rw [hp] at htm
       have HX := hide (fun v2 w2 o => HSN.out 2 v2 w2 o hr)
       clear hr HSN hp he huv
       go_wp2_with (first | (go_at_call 94; refine (HD.out _).mono ?_; rintro e w' ⟨rfl, rfl⟩) | (go_at_call 97; refine (HS.out _).mono ?_; rintro e w' ⟨rfl, rfl⟩))
       refine HDN.out.mono ?_
       rintro e w' ⟨rfl, rfl⟩
       go_wp2_with fail
       refine HUP.out.mono ?_
       rintro e w' ⟨rfl, rfl⟩
       go_wp2_with (at_builtin; refine wpList_append_row _ rfl (.tmp 67) (.tmp 69) 30 rfl w.heap.size 3 ii (.int .i64 0) 8 Tryz.underlying30 HII.out HY0.out HY1.out HY2.out rfl _ k _ rfl (HOW.out.alloc _) .i64 _ 1 1 [2] rfl (row_one _ wr.heap.size rfl 2) (by omega) (by omega) (by simp; omega) ?_; intro v2 w2 hown2 hb2)
       have HMM := hide (HX.out v2 w2 _ hb2 hown2)
       clear hown2 hb2 HX HOW
       go_roundw
       case rel => exact ⟨k + 1, by omega, by go_num, HAL, HMM⟩
       case measure => exact HM.out
      ·rw [he] at hr
       rw [hp] at htm
       have HX := hide (fun v2 w2 o => HSN.out 1 v2 w2 o hr)
       clear hr HSN hp he huv
       go_wp2_with (first | (go_at_call 94; refine (HD.out _).mono ?_; rintro e w' ⟨rfl, rfl⟩) | (go_at_call 97; refine (HS.out _).mono ?_; rintro e w' ⟨rfl, rfl⟩))
       refine HDN.out.mono ?_
       rintro e w' ⟨rfl, rfl⟩
       go_wp2_with fail
       refine HUP.out.mono ?_
       rintro e w' ⟨rfl, rfl⟩
       go_wp2_with (at_builtin; refine wpList_append_row _ rfl (.tmp 67) (.tmp 69) 30 rfl w.heap.size 3 ii (.int .i64 0) 8 Tryz.underlying30 HII.out HY0.out HY1.out HY2.out rfl _ k _ rfl (HOW.out.alloc _) .i64 _ 1 1 [1] rfl (row_one _ wr.heap.size rfl 1) (by omega) (by omega) (by simp; omega) ?_; intro v2 w2 hown2 hb2)
       have HMM := hide (HX.out v2 w2 _ hb2 hown2)
       clear hown2 hb2 HX HOW
       go_roundw
       case rel => exact ⟨k + 1, by omega, by go_num, HAL, HMM⟩
       case measure => exact HM.out
    ·have HX := hide (fun v2 w2 o => HSN.out _ v2 w2 o (Ne.r1_side hs))
     clear HSN
     generalize t.getD k 0 = x at *
     generalize Ne.sd x = y at *
     have hy : (y == 0) = false := beq_false_of_ne hs
     clear hs
     go_wp2_with (first
      | (go_at_call 94; refine (HD.out _).mono ?_; rintro e w' ⟨rfl, rfl⟩)
      | (go_at_call 97; refine (HS.out _).mono ?_; rintro e w' ⟨rfl, rfl⟩)
      | (at_builtin; refine wpList_append_row _ rfl (.tmp 67) (.tmp 69) 30 rfl w.heap.size 3 ii (.int .i64 0) 8 Tryz.underlying30 HII.out HY0.out HY1.out HY2.out rfl _ k _ rfl (HOW.out.alloc _) .i64 _ 1 1 [x] rfl (row_one _ wr.heap.size rfl x) (by omega) (by omega) (by simp; omega) ?_; intro v2 w2 hown2 hb2))
     have HMM := hide (HX.out v2 w2 _ hb2 hown2)
     clear hown2 hb2 HX HOW
     go_roundw
     case rel => exact ⟨k + 1, by omega, by go_num, HAL, HMM⟩
     case measure => exact HM.out
   ·rw [decide_eq_false hm] at HD
    have HE := hide (show L = [] /\ E = 50 from by
     rcases HA.out with ⟨_, h1, h2⟩ | ⟨h1, _⟩
     ·exact ⟨h1, h2⟩
     ·exact absurd (h1 k (by rw [HLEN.out]; exact hlt)) hm)
    have HKW := hide gm.out.bel
    clear hm hc hbl hall gm
    generalize t.getD k 0 = x at *
    go_wp2_with (go_at_call 94; refine (HD.out _).mono ?_; rintro e w' ⟨rfl, rfl⟩)
    obtain ⟨rfl, rfl⟩ := HE.out
    go_ret2
    exact ⟨none, 0, rfl, row_nil _ _, HKW.out⟩
  ·obtain rfl : k = n := by omega
   have hne : ¬ ((k : Int) < (k : Int)) := by omega
   have HE := hide (show L = Ne.RT t lv so eo k /\ E = 0 /\ (Ne.RT t lv so eo k).length = k from by
    have e : Ne.RT t lv so eo k = Ne.RS t lv so eo := by unfold Ne.RT Ne.RS; rw [HLEN.out]
    rcases HA.out with ⟨h1, _⟩ | ⟨_, h1, h2⟩
    ·exact absurd (fun i hi => hall.out i (by rw [HLEN.out] at hi; exact hi)) h1
    ·exact ⟨by rw [e]; exact h1, h2, by simp [Ne.RT]⟩)
   obtain ⟨a1, c1, rfl, hr1⟩ := row_of_owns gm.out.own
   have HWW := hide (show Row .i64 wr a1 k c1 (Ne.RT t lv so eo k) /\ KO w wr from ⟨hr1, gm.out.bel⟩)
   clear gm hlt hall hr1
   go_wp2
   obtain ⟨rfl, rfl, hl⟩ := HE.out
   go_ret2
   rw [hl]
   exact ⟨_, _, rfl, HWW.out.1, HWW.out.2⟩
theorem nrresolve_any (ao : Option Addr) (n cap : Nat) (lv so eo : Int) (t : List Int) (w : World) (h : Row .i64 w ao n cap t) (hn : n <= 500) (L : List Int) (E : Int) (hA : Ne.AR t lv so eo L E) :
  Calls Tryz.prog 62 #[.slice ao n cap, .int .i64 lv, .int .i64 so, .int .i64 eo] w fun e w' => ∃ a1 c1, e = .returned (.tuple #[.slice a1 L.length c1, .int .i64 E]) /\ Row .i64 w' a1 L.length c1 L /\ KO w w' := by
 rcases hA with ⟨hg, rfl, rfl⟩ | ⟨hg, ho, rfl, rfl⟩ | ⟨hg, ho, rfl, rfl⟩
 ·exact (rresolve_bad ao n cap lv so eo w hg).mono fun e w' ⟨he, hk⟩ => ⟨none, 0, he, row_nil _ _, by rw [<- hk]; exact KO.refl _⟩
 ·exact rresolve_go ao n cap lv so eo t w h hn hg _ _ (.inl ⟨ho, rfl, rfl⟩)
 ·exact rresolve_go ao n cap lv so eo t w h hn hg _ _ (.inr ⟨ho, rfl, rfl⟩)
end Go.Proofs.YtfcoebbblfcdoaaGreatDoor

/- The document's answer (colophonref11: Levels). -/
namespace Go.Proofs.YtfcoebbblfcdoaaGreatDoor
open Go.RowKit
set_option linter.unusedVariables false
set_option maxHeartbeats 1000000
set_option maxRecDepth 100000
namespace Ne
def LT (t : List Int) (lv : Int) (k : Nat) : List Int := (List.range k).map fun i => lv1 lv (t.getD i 0)
theorem LT_succ (t : List Int) (lv : Int) (k : Nat) : LT t lv (k + 1) = LT t lv k ++ [lv1 lv (t.getD k 0)] := by simp [LT, List.range_succ]
end Ne
theorem rlevels_go (ao : Option Addr) (n cap : Nat) (lv : Int) (t : List Int) (w : World) (h : Row .i64 w ao n cap t) (hn : n * 8 <= 140737488351232) (hg : Ne.Lev lv) (L : List Int) (E : Int) (hA : (¬ Ne.Sided t /\ L = [] /\ E = 50) \/ (Ne.Sided t /\ L = Ne.LS t lv /\ E = 0)) :
  Calls Tryz.prog 63 #[.slice ao n cap, .int .i64 lv] w fun e w' => ∃ a1 c1, e = .returned (.tuple #[.slice a1 L.length c1, .int .i64 E]) /\ Row .i64 w' a1 L.length c1 L /\ KO w w' /\ Fresh w a1 L.length := by
 obtain ⟨ii, hii, hy0, hy1, hy2⟩ := info_parts infoInt
 have HII : Hid (Tryz.prog.info? 3 = some ii) := hii
 have HY0 := hide hy0
 have HY1 := hide hy1
 have HY2 := hide hy2
 have H := hide h
 have HLEN := hide h.len
 have HA := hide hA
 have h1 : ¬ lv < 0 := by have := hg.1; omega
 have h2 : ¬ 126 < lv := by have := hg.2; omega
 have htm : lv.tmod 2 = lv % 2 := Int.tmod_eq_emod_of_nonneg hg.1
 clear h hA hg hii hy0 hy1 hy2
 go_enter Tryz.func63, Tryz.ntmps63
 go_wp2
 obtain ⟨W0, hW0⟩ : ∃ W0, ((w.alloc (Obj.cells #[Value.int IntKind.i64 0, Value.int IntKind.i64 0, Value.int IntKind.i64 1, Value.int IntKind.i64 0, Value.int IntKind.i64 2, Value.int IntKind.i64 0, Value.int IntKind.i64 0, Value.int IntKind.i64 2] 142)).alloc (Obj.cells #[Value.int IntKind.i64 0, Value.int IntKind.i64 1, Value.int IntKind.i64 0, Value.int IntKind.i64 0, Value.int IntKind.i64 1, Value.int IntKind.i64 0, Value.int IntKind.i64 0, Value.int IntKind.i64 1] 142)) = W0 := ⟨_, rfl⟩
 have hb0 : W0.heap[w.heap.size]? = some (.cells #[Value.int IntKind.i64 0, Value.int IntKind.i64 0, Value.int IntKind.i64 1, Value.int IntKind.i64 0, Value.int IntKind.i64 2, Value.int IntKind.i64 0, Value.int IntKind.i64 0, Value.int IntKind.i64 2] 142 (0, 0)) := by
  rw [<- hW0]; exact (Below.heap_alloc _ _ _ (by simp)).trans (World.alloc_heap_new w _)
 have hb1 : W0.heap[w.heap.size + 1]? = some (.cells #[Value.int IntKind.i64 0, Value.int IntKind.i64 1, Value.int IntKind.i64 0, Value.int IntKind.i64 0, Value.int IntKind.i64 1, Value.int IntKind.i64 0, Value.int IntKind.i64 0, Value.int IntKind.i64 1] 142 (0, 0)) := by
  rw [<- hW0]
  have := World.alloc_heap_new (w.alloc (Obj.cells #[Value.int IntKind.i64 0, Value.int IntKind.i64 0, Value.int IntKind.i64 1, Value.int IntKind.i64 0, Value.int IntKind.i64 2, Value.int IntKind.i64 0, Value.int IntKind.i64 0, Value.int IntKind.i64 2] 142)) (Obj.cells #[Value.int IntKind.i64 0, Value.int IntKind.i64 1, Value.int IntKind.i64 0, Value.int IntKind.i64 0, Value.int IntKind.i64 1, Value.int IntKind.i64 0, Value.int IntKind.i64 0, Value.int IntKind.i64 1] 142)
  rw [World.size_alloc] at this
  exact this
 have HB0 := hide hb0
 have HB1 := hide hb1
 have HKW := hide (show KO w W0 from by rw [<- hW0]; exact KO.alloc (KO.alloc (KO.refl _) _) _)
 rw [hW0]
 clear hW0 hb0 hb1
 go_loopw [8, 9] (fun v8 v9 wr => ∃ k : Nat, k <= n /\ v9 = .int .i64 (k : Int) /\ Hid (∀ i, i < k -> Ne.sd (t.getD i 0) ≠ 0) /\ Hid (RG W0 (Ne.LT t lv k) k v8 wr)) (fun _ v9 _ => n - (intOf v9).toNat)
 case atStart => exact ⟨0, Nat.zero_le _, rfl, hide (fun i hi => by omega), ⟨World.ownsRow_nil _ _ _ _, Below.refl _ _⟩⟩
 case round =>
  obtain ⟨k, hk, rfl, hall, gm⟩ := hrel
  by_cases hlt : k < n
  ·have hin : (k : Int) < (n : Int) := by omega
   have HR := hide (H.out.below (KO.on HKW.out gm.out.bel))
   obtain ⟨b, off, rfl, hbl, hc⟩ := HR.out.cells (by omega)
   have ck := hc k (by rw [HLEN.out]; exact hlt)
   have hx0 : wr.heap[w.heap.size]? = _ := (gm.out.bel.block _ (Array.getElem?_eq_some_iff.1 HB0.out).1).trans HB0.out
   have hx1 : wr.heap[w.heap.size + 1]? = _ := (gm.out.bel.block _ (Array.getElem?_eq_some_iff.1 HB1.out).1).trans HB1.out
   have c0 := fun (j : Nat) (v : Value) (hv : (#[Value.int IntKind.i64 0, Value.int IntKind.i64 0, Value.int IntKind.i64 1, Value.int IntKind.i64 0, Value.int IntKind.i64 2, Value.int IntKind.i64 0, Value.int IntKind.i64 0, Value.int IntKind.i64 2] : Array Value)[j]? = some v) => (show wr.cell? ⟨w.heap.size, j, none⟩ = some v from by unfold World.cell?; rw [hx0]; exact hv)
   have c1 := fun (j : Nat) (v : Value) (hv : (#[Value.int IntKind.i64 0, Value.int IntKind.i64 1, Value.int IntKind.i64 0, Value.int IntKind.i64 0, Value.int IntKind.i64 1, Value.int IntKind.i64 0, Value.int IntKind.i64 0, Value.int IntKind.i64 1] : Array Value)[j]? = some v) => (show wr.cell? ⟨w.heap.size + 1, j, none⟩ = some v from by unfold World.cell?; rw [hx1]; exact hv)
   by_cases hs : Ne.sd (t.getD k 0) = 0
   ·have HE := hide (show L = [] /\ E = 50 from by
     rcases HA.out with ⟨_, h1, h2⟩ | ⟨h1, _⟩
     ·exact ⟨h1, h2⟩
     ·exact absurd hs (h1 k (by rw [HLEN.out]; exact hlt)))
    have HKX := hide (KO.on HKW.out gm.out.bel)
    obtain ⟨n1, n2, n4, n7⟩ := Ne.unsided hs
    generalize t.getD k 0 = x at *
    have q1 : (x != 1) = true := bne_iff_ne.2 n1
    have q2 : (x != 2) = true := bne_iff_ne.2 n2
    have q4 : (x != 4) = true := bne_iff_ne.2 n4
    have q7 : (x != 7) = true := bne_iff_ne.2 n7
    clear hs hc hbl hall gm c0 c1 hx0 hx1 n1 n2 n4 n7
    go_wp2
    obtain ⟨rfl, rfl⟩ := HE.out
    go_ret2
    exact ⟨none, 0, rfl, row_nil _ _, HKX.out, Fresh.nil _⟩
   ·have HAL := hide (show ∀ i, i < k + 1 -> Ne.sd (t.getD i 0) ≠ 0 from fun i hi => by
     by_cases e : i = k
     ·subst e; exact hs
     ·exact hall.out i (by omega))
    have HSN := hide (fun (x : Int) (v2 : Value) (w2 : World) (o : Obj) (hx : Ne.lv1 lv (t.getD k 0) = x) => RG.snoc (w := W0) (zs := Ne.LT t lv k) (ys := Ne.LT t lv (k + 1)) (k := k) (x := x) (v2 := v2) (wr := wr) (w2 := w2) (o := o) gm.out.bel (hy := by rw [Ne.LT_succ, hx]))
    have HOW := hide gm.out.own
    have hsz := gm.out.bel.size
    have HM := hide (meas_n0 n k hlt)
    have hcs := Ne.sided_cases hs
    have hpar : lv % 2 = 0 \/ lv % 2 = 1 := by omega
    clear hall hs hc hbl gm hx0 hx1
    generalize t.getD k 0 = x at *
    have hfin : ∃ (y dd : Int), Ne.lv1 lv x = y /\ wrap64 (lv + dd) = y /\ ((lv % 2 = 0 /\ wr.cell? ⟨w.heap.size, x.toNat, none⟩ = some (.int .i64 dd)) \/ (lv % 2 = 1 /\ wr.cell? ⟨w.heap.size + 1, x.toNat, none⟩ = some (.int .i64 dd))) := by
     have hw : ∀ d : Int, 0 <= d -> d <= 2 -> wrap64 (lv + d) = lv + d := fun d a b => w64_small (by omega) (by omega)
     unfold Ne.lv1
     rcases hpar with hp | hp
     ·rw [if_pos hp]
      rcases hcs with rfl | rfl | rfl | rfl
      ·exact ⟨lv, 0, by rw [if_pos rfl], by rw [hw 0 (by omega) (by omega)]; omega, .inl ⟨hp, c0 1 _ rfl⟩⟩
      ·exact ⟨lv + 1, 1, by rw [if_neg (by omega), if_pos rfl], hw 1 (by omega) (by omega), .inl ⟨hp, c0 2 _ rfl⟩⟩
      ·exact ⟨lv + 2, 2, by rw [if_neg (by omega), if_neg (by omega)], hw 2 (by omega) (by omega), .inl ⟨hp, c0 4 _ rfl⟩⟩
      ·exact ⟨lv + 2, 2, by rw [if_neg (by omega), if_neg (by omega)], hw 2 (by omega) (by omega), .inl ⟨hp, c0 7 _ rfl⟩⟩
     ·rw [if_neg (by omega)]
      rcases hcs with rfl | rfl | rfl | rfl
      ·exact ⟨lv + 1, 1, by rw [if_neg (by omega)], hw 1 (by omega) (by omega), .inr ⟨hp, c1 1 _ rfl⟩⟩
      ·exact ⟨lv, 0, by rw [if_pos rfl], by rw [hw 0 (by omega) (by omega)]; omega, .inr ⟨hp, c1 2 _ rfl⟩⟩
      ·exact ⟨lv + 1, 1, by rw [if_neg (by omega)], hw 1 (by omega) (by omega), .inr ⟨hp, c1 4 _ rfl⟩⟩
      ·exact ⟨lv + 1, 1, by rw [if_neg (by omega)], hw 1 (by omega) (by omega), .inr ⟨hp, c1 7 _ rfl⟩⟩
    obtain ⟨y, dd, hy, hyw, hcc⟩ := hfin
    have HX := hide (fun v2 w2 o => HSN.out y v2 w2 o hy)
    clear HSN hy c0 c1 hpar
    rcases hcc with ⟨hp, cc⟩ | ⟨hp, cc⟩
    all_goals
     rw [hp] at htm
     clear hp
     rcases hcs with rfl | rfl | rfl | rfl
     all_goals
      simp only [show (1 : Int).toNat = 1 from rfl, show (2 : Int).toNat = 2 from rfl, show (4 : Int).toNat = 4 from rfl, show (7 : Int).toNat = 7 from rfl] at cc
      go_wp2_with (first
       | (at_builtin; refine wpList_append_row _ rfl (.tmp 46) (.tmp 52) 30 rfl W0.heap.size 3 ii (.int .i64 0) 8 Tryz.underlying30 HII.out HY0.out HY1.out HY2.out rfl _ k _ rfl (HOW.out.alloc _) .i64 _ 1 1 [y] rfl (row_one _ wr.heap.size rfl y) (by omega) (by omega) (by simp; omega) ?_; intro v2 w2 hown2 hb2)
       | (at_builtin; refine wpList_append_row _ rfl (.tmp 54) (.tmp 60) 30 rfl W0.heap.size 3 ii (.int .i64 0) 8 Tryz.underlying30 HII.out HY0.out HY1.out HY2.out rfl _ k _ rfl (HOW.out.alloc _) .i64 _ 1 1 [y] rfl (row_one _ wr.heap.size rfl y) (by omega) (by omega) (by simp; omega) ?_; intro v2 w2 hown2 hb2))
      have HMM := hide (HX.out v2 w2 _ hb2 hown2)
      clear hown2 hb2 HX HOW
      go_roundw
      case rel => exact ⟨k + 1, by omega, by go_num, HAL, HMM⟩
      case measure => exact HM.out
  ·obtain rfl : k = n := by omega
   have hne : ¬ ((k : Int) < (k : Int)) := by omega
   have HE := hide (show L = Ne.LT t lv k /\ E = 0 /\ (Ne.LT t lv k).length = k from by
    have e : Ne.LT t lv k = Ne.LS t lv := by unfold Ne.LT Ne.LS; rw [HLEN.out]
    rcases HA.out with ⟨h1, _⟩ | ⟨_, h1, h2⟩
    ·exact absurd (fun i hi => hall.out i (by rw [HLEN.out] at hi; exact hi)) h1
    ·exact ⟨by rw [e]; exact h1, h2, by simp [Ne.LT]⟩)
   have hgo := gm.out.own
   obtain ⟨a1, c1, rfl, hr1⟩ := row_of_owns hgo
   have HWW := hide (show Row .i64 wr a1 k c1 (Ne.LT t lv k) /\ KO w wr /\ Fresh w a1 k from ⟨hr1, KO.on HKW.out gm.out.bel, fun h0 => by
    obtain ⟨g, c2, e2, hg2, _⟩ := owns_pos hgo h0
    simp only [Value.slice.injEq] at e2
    exact ⟨g, e2.1, Nat.le_trans HKW.out.size hg2⟩⟩)
   clear gm hlt hall hr1 hgo
   go_wp2
   obtain ⟨rfl, rfl, hl⟩ := HE.out
   go_ret2
   rw [hl]
   exact ⟨_, _, rfl, HWW.out.1, HWW.out.2.1, HWW.out.2.2⟩
end Go.Proofs.YtfcoebbblfcdoaaGreatDoor

/- The document's levels of a sequence. -/
namespace Go.Proofs.YtfcoebbblfcdoaaGreatDoor
open Go.RowKit
set_option linter.unusedVariables false
set_option maxHeartbeats 1000000
set_option maxRecDepth 100000
theorem pk_snoc (t : List Int) (ps : List Nat) {k : Nat} (hk : k < ps.length) : Rn.pk t (ps.take (k + 1)) = Rn.pk t (ps.take k) ++ [t.getD (ps.getD k 0) 0] := by
 rw [Rn.take_places (s := ⟨ps, 0, 0, 0⟩) hk]
 simp [Rn.pk]
theorem rseq12_any (ao at' : Option Addr) (n cap ct : Nat) (l T : List Int) (w : World) (h : Row .i32 w ao n cap l) (hT : Row .i64 w at' n ct T) (gj np cj : Nat) (ps : List Nat) (x y z : Int) (hp : Row .i64 w (some ⟨gj, 0, none⟩) np cj (Rn.zs ps)) (hlt : ∀ i ∈ ps, i < n)
  (hg : Rn.G (Rn.pk l ps) (Rn.pk T ps) x y z) (hf : ∀ x ∈ l, (Lit.int .i32 x).wf = true) (hn : np <= 300) :
  Calls Tryz.prog 35 #[.slice ao n cap, .slice at' n ct, .agg #[.slice (some ⟨gj, 0, none⟩) np cj, .int .i64 x, .int .i64 y, .int .i64 z]] w fun e w' => ∃ a1 c1, e = .returned (.slice a1 np c1) /\ Row .i64 w' a1 np c1 (Rn.F13 (Rn.pk l ps) (Rn.pk T ps) x y z) /\ KO w w' /\ Fresh w a1 np := by
 obtain ⟨ii, hii, hy0, hy1, hy2⟩ := info_parts infoInt
 have HII : Hid (Tryz.prog.info? 3 = some ii) := hii
 have HY0 := hide hy0
 have HY1 := hide hy1
 have HY2 := hide hy2
 obtain ⟨ir, hir, hz0, hz1, hz2⟩ := info_parts infoRune12
 have HIR : Hid (Tryz.prog.info? 21 = some ir) := hir
 have HZ0 := hide hz0
 have HZ1 := hide hz1
 have HZ2 := hide hz2
 have hnp : ps.length = np := by have := hp.len; rw [zs_len] at this; exact this
 obtain ⟨W1, hW1⟩ : ∃ W1, w.alloc (.cells #[.slice (some ⟨gj, 0, none⟩) np cj, .int .i64 x, .int .i64 y, .int .i64 z] 77) = W1 := ⟨_, rfl⟩
 have hk1 : KO w W1 := by rw [<- hW1]; exact KO.alloc (KO.refl _) _
 have hh : W1.heap[w.heap.size]? = some (.cells #[.slice (some ⟨gj, 0, none⟩) np cj, .int .i64 x, .int .i64 y, .int .i64 z] 77 (0, 0)) := by rw [<- hW1]; exact heap_alloc_last w _
 have hW : ∀ W, KO W1 W -> W.heap[w.heap.size]? = some (.cells #[.slice (some ⟨gj, 0, none⟩) np cj, .int .i64 x, .int .i64 y, .int .i64 z] 77 (0, 0)) := fun W hk => (Below.block hk w.heap.size (Array.getElem?_eq_some_iff.1 hh).1).trans hh
 have HX0 := hide (fun W (hk : KO W1 W) => (show W.cell? ⟨w.heap.size, 0, none⟩ = some (.slice (some ⟨gj, 0, none⟩) np cj) from by simp [World.cell?, hW W hk]))
 have HX1 := hide (fun W (hk : KO W1 W) => (show W.cell? ⟨w.heap.size, 1, none⟩ = some (.int .i64 x) from by simp [World.cell?, hW W hk]))
 have HX2 := hide (fun W (hk : KO W1 W) => (show W.cell? ⟨w.heap.size, 2, none⟩ = some (.int .i64 y) from by simp [World.cell?, hW W hk]))
 have HX3 := hide (fun W (hk : KO W1 W) => (show W.cell? ⟨w.heap.size, 3, none⟩ = some (.int .i64 z) from by simp [World.cell?, hW W hk]))
 have H := hide (h.below hk1)
 have HT := hide (hT.below hk1)
 have HP := hide (hp.below hk1)
 have HL := hide h.len
 have HTL := hide hT.len
 have HNP := hide hnp
 have HLT := hide hlt
 have HG := hide hg
 have HK1 := hide hk1
 have HPF := hide (fun q (hx : q ∈ Rn.pk l ps) => (show (Lit.int .i32 q).wf = true from by
  unfold Rn.pk at hx
  obtain ⟨i, hi, rfl⟩ := List.mem_map.1 hx
  exact wf_at hf (by rw [h.len]; exact hlt i hi)))
 clear h hT hp hlt hg hf hnp hh hW hk1 hii hy0 hy1 hy2 hir hz0 hz1 hz2
 obtain ⟨B, hB⟩ : ∃ B, w.heap.size = B := ⟨_, rfl⟩
 rw [hB] at HX0 HX1 HX2 HX3
 go_enter Tryz.func35, Tryz.ntmps35
 go_wp2
 clear hW1
 go_loopw [7, 8, 9] (fun s7 s8 s9 wr => ∃ (k : Nat) (v7 v8 : Value), v7 = s7 /\ v8 = s8 /\ s9 = .int .i64 (k : Int) /\ k <= np /\ Hid (LT W1 v7 v8 k k (Rn.pk l (ps.take k)) (Rn.pk T (ps.take k)) wr)) (fun _ _ s9 _ => np - (intOf s9).toNat)
 case atStart => exact ⟨0, _, _, rfl, rfl, rfl, Nat.zero_le _, hide ⟨Below.refl _ _, World.ownsRow_nil _ _ _ _, World.ownsRow_nil _ _ _ _⟩⟩
 case round =>
  obtain ⟨k, v7, v8, hv7, hv8, rfl, hk, HLT0⟩ := hrel
  subst hv7
  subst hv8
  have x0 := HX0.out wr HLT0.out.old
  by_cases hlt : k < np
  ·have hin : (k : Int) < (np : Int) := by omega
   have hkl : k < ps.length := by rw [HNP.out]; exact hlt
   have hpl := HLT.out _ (Rn.getD_mem hkl)
   have HCP := hide (fun W (hw : KO W1 W) => (show W.cell? ⟨gj, k, none⟩ = some (.int .i64 (ps.getD k 0 : Int)) from by
    have := rowAt HP.out hw k hlt
    rw [Nat.zero_add, zs_at ps hkl] at this
    exact this))
   obtain ⟨b, off, rfl, hbl, hc⟩ := H.out.cells (by omega)
   obtain ⟨b2, off2, rfl, hbl2, hc2⟩ := HT.out.cells (by omega)
   have cp := HCP.out wr HLT0.out.old
   have cl := (HLT0.out.old.cell (by exact hbl)).trans (hc (ps.getD k 0) (by rw [HL.out]; exact hpl))
   have HCT := hide (fun W (hw : KO W1 W) => (Below.cell hw (by exact hbl2)).trans (hc2 (ps.getD k 0) (by rw [HTL.out]; exact hpl)))
   have HSL := hide (pk_snoc l ps hkl)
   have HST := hide (pk_snoc T ps hkl)
   have hpi : ((ps.getD k 0 : Nat) : Int) < (n : Int) := by omega
   clear hc hc2
   generalize Rn.pk l (ps.take k) = Lk at *
   generalize Rn.pk T (ps.take k) = Tk at *
   generalize l.getD (ps.getD k 0) 0 = xl at *
   generalize T.getD (ps.getD k 0) 0 = xT at *
   generalize ps.getD k 0 = pm at *
   go_wp2_with (first
    | (at_builtin; refine wpList_append_one wr rfl (.tmp 19) (.tmp 28) 23 rfl W1.heap.size 21 ir _ 4 Tryz.underlying23 HIR.out HZ0.out HZ1.out HZ2.out rfl v7 k _ rfl (.int .i32 xl) HLT0.out.ol _ rfl rfl rfl (by omega) (by omega) HLT0.out.old.size ?_; intro v1 W4 ho1 hg1; have HL1 := hide (HLT0.out.pushL ho1 hg1); clear ho1 hg1; have d0 := HX0.out W4 HL1.out.old; have dp := HCP.out W4 HL1.out.old; have dT := HCT.out W4 HL1.out.old)
    | (at_builtin; refine wpList_append_one W4 rfl (.tmp 30) (.tmp 39) 30 rfl W1.heap.size 3 ii _ 8 Tryz.underlying30 HII.out HY0.out HY1.out HY2.out rfl v8 k _ rfl (.int .i64 xT) HL1.out.ot _ rfl rfl rfl (by omega) (by omega) HL1.out.old.size ?_; intro v2 W5 ho2 hg2; have HL2 := hide (HL1.out.pushT ho2 hg2); clear ho2 hg2))
   rw [<- HSL.out, <- HST.out] at HL2
   go_roundw
   case rel => exact ⟨k + 1, _, _, rfl, rfl, by go_num, by omega, HL2⟩
   case measure => simp [intOf]; omega
  ·obtain rfl : k = np := by omega
   have hne : ¬ ((k : Int) < (k : Int)) := by omega
   have hT9 : (Rn.T9 (Rn.pk T ps) y).length = k := by rw [Rn.T9_len, Rn.pk_len]; exact HNP.out
   have hT10 : (Rn.T10 Br.PP (Rn.pk l ps) (Rn.pk T ps) x y).length = k := by rw [Rn.T10_len, Rn.pk_len]; exact HNP.out
   have hT11 : (Ne.RS (Rn.T10 Br.PP (Rn.pk l ps) (Rn.pk T ps) x y) x y z).length = k := by rw [Ne.RS_len]; exact hT10
   have hT12 : (Rn.F13 (Rn.pk l ps) (Rn.pk T ps) x y z).length = k := by unfold Rn.F13; rw [Rn.F12_len, Rn.pk_len]; exact HNP.out
   obtain ⟨a7, c7, rfl, r7⟩ := row_of_owns HLT0.out.ol
   obtain ⟨a8, c8, rfl, r8⟩ := row_of_owns HLT0.out.ot
   rw [List.take_of_length_le (by rw [HNP.out]; exact Nat.le_refl _)] at r7 r8
   have HKR := hide HLT0.out.old
   have H9 := hide (rwresolve_any a8 k c8 y (Rn.pk T ps) _ 0 wr r8 (by omega) HG.out.b9)
   have H10 := hide (fun W a9 c9 (hw : KO wr W) (h9 : Row .i64 W a9 k c9 (Rn.T9 (Rn.pk T ps) y)) => dresolve_any a7 a8 a9 k k k c7 c8 c9 (Rn.pk l ps) (Rn.pk T ps) _ x y W (r7.below hw) (r8.below hw) h9 HPF.out (by omega))
   have H11 := hide (fun W a9 c9 (h9 : Row .i64 W a9 k c9 (Rn.T10 Br.PP (Rn.pk l ps) (Rn.pk T ps) x y)) => nrresolve_any a9 k c9 x y z _ W h9 (by omega) _ 0 HG.out.ar)
   have H12 := hide (fun W a9 c9 (h9 : Row .i64 W a9 k c9 (Ne.RS (Rn.T10 Br.PP (Rn.pk l ps) (Rn.pk T ps) x y) x y z)) => rlevels_go a9 k c9 x _ W h9 (by omega) ⟨HG.out.lv0, by have := HG.out.lv1; omega⟩ (Rn.F13 (Rn.pk l ps) (Rn.pk T ps) x y z) 0 (.inr ⟨Rn.rs_sided _ _ _ _ HG.out.so, rfl, rfl⟩))
   rw [hT9] at H9
   rw [HG.out.ra] at H10
   unfold R10 at H10
   simp only [hT10] at H10
   simp only [hT11] at H11
   simp only [hT12] at H12
   have x2 := HX2.out wr HKR.out
   clear hT9 hT10 hT11 hT12 r7 r8 HLT0 HG HPF
   obtain ⟨L12, hL12⟩ : ∃ L, Rn.F13 (Rn.pk l ps) (Rn.pk T ps) x y z = L := ⟨_, rfl⟩
   rw [hL12] at H12
   have HLE := hide hL12
   clear hL12
   generalize Ne.RS (Rn.T10 Br.PP (Rn.pk l ps) (Rn.pk T ps) x y) x y z = L11 at *
   generalize Rn.T10 Br.PP (Rn.pk l ps) (Rn.pk T ps) x y = L10 at *
   generalize Rn.T9 (Rn.pk T ps) y = L9 at *
   go_wp2_with fail
   refine H9.out.mono ?_
   rintro e w9 ⟨a9, c9, rfl, hN9⟩
   have HK9 := hide (show KO wr w9 from hN9.bel)
   have H10' := hide (H10.out w9 a9 c9 hN9.bel hN9.row)
   have y1 := HX1.out w9 (KO.on HKR.out hN9.bel)
   have y2 := HX2.out w9 (KO.on HKR.out hN9.bel)
   clear hN9 H9 H10 x2 x0
   go_wp2_with fail
   refine H10'.out.mono ?_
   rintro e w10 ⟨a10, c10, rfl, hr10, hk10⟩
   have HK10 := hide (KO.on HK9.out hk10)
   have H11' := hide (H11.out w10 a10 c10 hr10)
   have z1 := HX1.out w10 (KO.on HKR.out HK10.out)
   have z2 := HX2.out w10 (KO.on HKR.out HK10.out)
   have z3 := HX3.out w10 (KO.on HKR.out HK10.out)
   clear hr10 hk10 H10' H11 y1 y2 HK9
   go_wp2_with fail
   refine H11'.out.mono ?_
   rintro e w11 ⟨a11, c11, rfl, hr11, hk11⟩
   have HK11 := hide (KO.on HK10.out hk11)
   have H12' := hide (H12.out w11 a11 c11 hr11)
   have u1 := HX1.out w11 (KO.on HKR.out HK11.out)
   clear hr11 hk11 H11' H12 z1 z2 z3 HK10
   go_wp2_with fail
   refine H12'.out.mono ?_
   rintro e w12 ⟨a12, c12, rfl, hr12, hk12, hf12⟩
   have HE := hide (show Row .i64 w12 a12 k c12 L12 /\ KO w w12 /\ Fresh w a12 k from ⟨hr12, KO.on HK1.out (KO.on HKR.out (KO.on HK11.out hk12)), fun h0 => by
    obtain ⟨g, e1, e2⟩ := hf12 h0
    exact ⟨g, e1, Nat.le_trans (KO.on HK1.out (KO.on HKR.out HK11.out)).size e2⟩⟩)
   clear hr12 hk12 hf12 H12' u1
   go_wp2
   go_ret
   exact ⟨_, _, rfl, by rw [HLE.out]; exact HE.out.1, HE.out.2.1, HE.out.2.2⟩
end Go.Proofs.YtfcoebbblfcdoaaGreatDoor
