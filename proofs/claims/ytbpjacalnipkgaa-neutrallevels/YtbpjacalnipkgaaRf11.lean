/- The document's answer (colophonref10: Side, May; colophonref11: side, Resolve). -/
import Derived.Test.YtbpjacalnipkgaaNl
import Derived.Test.YtbpjacalnipkgaaTurned11
import Derived.Deep.RegionWith
namespace Go.Proofs.Ytbpjacalnipkgaa
open Go.RowKit
set_option linter.unusedVariables false
set_option maxHeartbeats 1000000
set_option maxRecDepth 100000
theorem side_cases2 (x : Int) : (x = 1) ∨ (¬ x = 1 ∧ x = 2) ∨ (¬ x = 1 ∧ ¬ x = 2 ∧ x = 4) ∨ (¬ x = 1 ∧ ¬ x = 2 ∧ ¬ x = 4 ∧ x = 7) ∨ (¬ x = 1 ∧ ¬ x = 2 ∧ ¬ x = 4 ∧ ¬ x = 7) := by omega
theorem dside_any (x : Int) (w : World) : Calls Try.prog 26 #[.int .i64 x] w fun e w' => e = .returned (.int .i64 (Ne.sd x)) ∧ w = w' := by
  rcases side_cases2 x with rfl | ⟨h1, rfl⟩ | ⟨h1, h2, rfl⟩ | ⟨h1, h2, h3, rfl⟩ | ⟨h1, h2, h3, h4⟩
  rotate_left 4
  · have e : Ne.sd x = 0 := by simp [Ne.sd, h1, h2, h3, h4]
    rw [e]; clear e
    have b2 : (x == 2) = false := beq_false_of_ne h2
    have b4 : (x == 4) = false := beq_false_of_ne h3
    have b7 : (x == 7) = false := beq_false_of_ne h4
    go_enter Try.func26, Try.ntmps26
    go_wp2
    go_ret
    exact ⟨rfl, rfl⟩
  all_goals
    go_enter Try.func26, Try.ntmps26
    go_wp2
    go_ret
    exact ⟨rfl, rfl⟩
theorem dmay_any (x : Int) (w : World) : Calls Try.prog 25 #[.int .i64 x] w fun e w' => e = .returned (.bool (decide (Ne.May x))) ∧ w = w' := by
  have HS := hide (fun w' => dside_any x w')
  rcases may_tests x with ⟨hm, e1⟩ | ⟨hm, e1, e2⟩ | ⟨hm, e1, e2⟩
  · rw [decide_eq_true hm]
    generalize Ne.sd x = y at *
    clear hm
    go_enter Try.func25, Try.ntmps25
    go_wp2_with (go_at_call 26; refine (HS.out _).mono ?_; rintro e w' ⟨rfl, rfl⟩)
    go_ret
    exact ⟨rfl, rfl⟩
  · rw [decide_eq_true hm]
    generalize Ne.sd x = y at *
    clear hm
    rcases neu_cases x with rfl | ⟨h1, rfl⟩ | ⟨h1, h2, rfl⟩ | ⟨h1, h2, h3, rfl⟩ | ⟨h1, h2, h3, h4, rfl⟩ | ⟨h1, h2, h3, h4, h5, rfl⟩ | ⟨h1, h2, h3, h4, h5, h6, rfl⟩ | ⟨h1, h2, h3, h4, h5, h6, h7, rfl⟩ | ⟨h1, h2, h3, h4, h5, h6, h7, h8⟩
    rotate_left 8
    · exact absurd e2 (by simp [Ne.neu, h1, h2, h3, h4, h5, h6, h7, h8])
    all_goals
      clear e2
      go_enter Try.func25, Try.ntmps25
      go_wp2_with (go_at_call 26; refine (HS.out _).mono ?_; rintro e w' ⟨rfl, rfl⟩)
      go_ret
      exact ⟨rfl, rfl⟩
  · rw [decide_eq_false hm]
    have h : ¬ x = 11 ∧ ¬ x = 12 ∧ ¬ x = 13 ∧ ¬ x = 14 ∧ ¬ x = 20 ∧ ¬ x = 21 ∧ ¬ x = 22 ∧ ¬ x = 23 := by
      rcases neu_cases x with rfl | ⟨h1, rfl⟩ | ⟨h1, h2, rfl⟩ | ⟨h1, h2, h3, rfl⟩ | ⟨h1, h2, h3, h4, rfl⟩ | ⟨h1, h2, h3, h4, h5, rfl⟩ | ⟨h1, h2, h3, h4, h5, h6, rfl⟩ | ⟨h1, h2, h3, h4, h5, h6, h7, rfl⟩ | ⟨h1, h2, h3, h4, h5, h6, h7, h8⟩
      rotate_left 8
      · exact ⟨h1, h2, h3, h4, h5, h6, h7, h8⟩
      all_goals exact absurd e2 (by decide)
    obtain ⟨h1, h2, h3, h4, h5, h6, h7, h8⟩ := h
    generalize Ne.sd x = y at *
    clear hm e2
    go_enter Try.func25, Try.ntmps25
    go_wp2_with (go_at_call 26; refine (HS.out _).mono ?_; rintro e w' ⟨rfl, rfl⟩)
    go_ret
    exact ⟨ret_bool (by simp [h1, h2, h3, h4, h5, h6, h7, h8]), rfl⟩
/-- side, ahead. -/
theorem rdown_any (ao : Option Addr) (n cap : Nat) (t : List Int) (s : Int) (i : Nat) (w : World) (h : Row .i64 w ao n cap t) (hi : i ≤ n) (hn : n ≤ 17592186044416) :
    Calls Try.prog 27 #[.slice ao n cap, .int .i64 (i : Int), .int .i64 (-1), .int .i64 s] w fun e w' => e = .returned (.int .i64 (Ne.ah t s i)) ∧ w = w' := by
  have H := hide h
  have HLEN := hide h.len
  have e1 : wrap64 ((i : Int) + -1) = (i : Int) - 1 := w64_small (by omega) (by omega)
  clear h
  go_enter Try.func27, Try.ntmps27
  go_wp2
  go_loopw [9] (fun v wr => ∃ j : Nat, v = .int .i64 ((j : Int) - 1) ∧ j ≤ i ∧ Hid (Ne.ah t s i = Ne.ah t s j) ∧ w = wr) (fun v _ => (intOf v + 1).toNat)
  case atStart => exact ⟨i, by first | rfl | (congr 1), Nat.le_refl _, hide rfl, rfl⟩
  case round =>
    obtain ⟨j, rfl, hj, HA, rfl⟩ := hrel
    cases j with
    | zero =>
      have HE : Hid (Ne.ah t s i = s) := hide (by rw [HA.out]; rfl)
      clear HA e1
      go_wp2
      go_ret
      exact ⟨ret_int HE.out.symm, rfl⟩
    | succ j =>
      obtain ⟨b, off, rfl, hbl, hc⟩ := H.out.cells (by omega)
      have cj := hc j (by rw [HLEN.out]; omega)
      have h0 : (0 : Int) ≤ (j : Int) := by omega
      have h1 : (j : Int) < (n : Int) := by omega
      have hji : ((j + 1 : Nat) : Int) - 1 = (j : Int) := by omega
      rw [hji]
      have e2 : wrap64 ((j : Int) + -1) = (j : Int) - 1 := w64_small (by omega) (by omega)
      have HS := hide (fun w' => dside_any (t.getD j 0) w')
      have hah := HA.out
      rw [Ne.ah_succ] at hah
      by_cases hs : Ne.sd (t.getD j 0) = 0
      · rw [if_pos hs] at hah
        have HE := hide hah
        rw [hs] at HS
        clear HA hs hc hbl hah e1
        generalize t.getD j 0 = x at *
        go_wp2_with (go_at_call 26; refine (HS.out _).mono ?_; rintro e w' ⟨rfl, rfl⟩)
        go_roundw
        case rel => exact ⟨j, by first | rfl | (congr 1), by omega, HE, trivial⟩
        case measure => first | (simp [intOf]; done) | (simp [intOf]; omega)
      · rw [if_neg hs] at hah
        have HE := hide hah
        clear HA hc hbl hah e1
        generalize t.getD j 0 = x at *
        generalize Ne.sd x = y at *
        have hy : (y != 0) = true := bne_iff_ne.2 hs
        go_wp2_with (go_at_call 26; refine (HS.out _).mono ?_; rintro e w' ⟨rfl, rfl⟩)
        go_ret
        exact ⟨ret_int HE.out.symm, rfl⟩
/-- side, behind. -/
theorem rup_any (ao : Option Addr) (n cap : Nat) (t : List Int) (s : Int) (i : Nat) (w : World) (h : Row .i64 w ao n cap t) (hi : i < n) (hn : n ≤ 17592186044416) :
    Calls Try.prog 27 #[.slice ao n cap, .int .i64 (i : Int), .int .i64 1, .int .i64 s] w fun e w' => e = .returned (.int .i64 (Ne.ah t.reverse s (n - 1 - i))) ∧ w = w' := by
  have H := hide h
  have HLEN := hide h.len
  clear h
  go_enter Try.func27, Try.ntmps27
  go_wp2
  go_loopw [9] (fun v wr => ∃ j : Nat, v = .int .i64 (j : Int) ∧ i < j ∧ j ≤ n ∧ Hid (Ne.ah t.reverse s (n - 1 - i) = Ne.ah t.reverse s (n - j)) ∧ w = wr) (fun v _ => n - (intOf v).toNat)
  case atStart => exact ⟨i + 1, by go_num, by omega, by omega, hide (by rw [show n - 1 - i = n - (i + 1) by omega]), rfl⟩
  case round =>
    obtain ⟨j, rfl, hj1, hj2, HA, rfl⟩ := hrel
    have h0 : (0 : Int) ≤ (j : Int) := by omega
    by_cases hlt : j < n
    · obtain ⟨b, off, rfl, hbl, hc⟩ := H.out.cells (by omega)
      have cj := hc j (by rw [HLEN.out]; omega)
      have h1 : (j : Int) < (n : Int) := by omega
      have HS := hide (fun w' => dside_any (t.getD j 0) w')
      have hah := HA.out
      rw [show n - j = (n - 1 - j) + 1 by omega, Ne.ah_succ, Ne.getD_rev t (by rw [HLEN.out]; omega), show t.length - 1 - (n - 1 - j) = j by rw [HLEN.out]; omega] at hah
      have HM := hide (meas_n0 n j hlt)
      by_cases hs : Ne.sd (t.getD j 0) = 0
      · rw [if_pos hs] at hah
        have HE := hide (show Ne.ah t.reverse s (n - 1 - i) = Ne.ah t.reverse s (n - (j + 1)) from by rw [hah, show n - (j + 1) = n - 1 - j by omega])
        rw [hs] at HS
        clear HA hs hc hbl hah
        generalize t.getD j 0 = x at *
        go_wp2_with (go_at_call 26; refine (HS.out _).mono ?_; rintro e w' ⟨rfl, rfl⟩)
        go_roundw
        case rel => exact ⟨j + 1, by go_num, by omega, by omega, HE, trivial⟩
        case measure => exact HM.out
      · rw [if_neg hs] at hah
        have HE := hide hah
        clear HA hc hbl hah
        generalize t.getD j 0 = x at *
        generalize Ne.sd x = y at *
        have hy : (y != 0) = true := bne_iff_ne.2 hs
        go_wp2_with (go_at_call 26; refine (HS.out _).mono ?_; rintro e w' ⟨rfl, rfl⟩)
        go_ret
        exact ⟨ret_int HE.out.symm, rfl⟩
    · obtain rfl : j = n := by omega
      have h1 : ¬ (j : Int) < (j : Int) := by omega
      have HE : Hid (Ne.ah t.reverse s (j - 1 - i) = s) := hide (by rw [HA.out, Nat.sub_self]; rfl)
      clear HA hlt
      go_wp2
      go_ret
      exact ⟨ret_int HE.out.symm, rfl⟩
theorem rresolve_bad (ao : Option Addr) (n cap : Nat) (lv so eo : Int) (w : World) (hb : ¬ Ne.Good lv so eo) :
    Calls Try.prog 11 #[.slice ao n cap, .int .i64 lv, .int .i64 so, .int .i64 eo] w fun e w' => e = .returned (.tuple #[.slice none 0 0, .int .i64 2]) ∧ w = w' := by
  have hc : (lv < 0) ∨ (¬ lv < 0 ∧ 126 < lv) ∨ (¬ lv < 0 ∧ ¬ 126 < lv ∧ so < 1) ∨ (¬ lv < 0 ∧ ¬ 126 < lv ∧ ¬ so < 1 ∧ 2 < so) ∨ (¬ lv < 0 ∧ ¬ 126 < lv ∧ ¬ so < 1 ∧ ¬ 2 < so ∧ eo < 1) ∨ (¬ lv < 0 ∧ ¬ 126 < lv ∧ ¬ so < 1 ∧ ¬ 2 < so ∧ ¬ eo < 1 ∧ 2 < eo) := by
    unfold Ne.Good at hb; omega
  clear hb
  rcases hc with h1 | ⟨h1, h2⟩ | ⟨h1, h2, h3⟩ | ⟨h1, h2, h3, h4⟩ | ⟨h1, h2, h3, h4, h5⟩ | ⟨h1, h2, h3, h4, h5, h6⟩
  all_goals
    go_enter Try.func11, Try.ntmps11
    go_wp2
    go_ret2
    exact ⟨rfl, rfl⟩
namespace Ne
def RT (t : List Int) (lv so eo : Int) (k : Nat) : List Int := (List.range k).map (r1 t lv so eo)
theorem RT_succ (t : List Int) (lv so eo : Int) (k : Nat) : RT t lv so eo (k + 1) = RT t lv so eo k ++ [r1 t lv so eo k] := by simp [RT, List.range_succ]
theorem r1_side {t : List Int} {lv so eo : Int} {k : Nat} (h : sd (t.getD k 0) ≠ 0) : r1 t lv so eo k = t.getD k 0 := by unfold r1; rw [if_neg h]
theorem r1_neu {t : List Int} {lv so eo : Int} {k : Nat} (hk : k < t.length) (h : sd (t.getD k 0) = 0) : r1 t lv so eo k = if ah t so k = ah t.reverse eo (t.length - 1 - k) then ah t so k else es lv := by
  unfold r1
  have e1 : ah t so (k + 1) = ah t so k := by rw [ah_succ, if_pos h]
  have e2 : ah t.reverse eo (t.length - k) = ah t.reverse eo (t.length - 1 - k) := by
    rw [show t.length - k = (t.length - 1 - k) + 1 by omega, ah_succ, getD_rev t (by omega), show t.length - 1 - (t.length - 1 - k) = k by omega, if_pos h]
  rw [if_pos h, e1, e2]
end Ne
theorem rresolve_go (ao : Option Addr) (n cap : Nat) (lv so eo : Int) (t : List Int) (w : World) (h : Row .i64 w ao n cap t) (hn : n ≤ 500) (hg : Ne.Good lv so eo) (L : List Int) (E : Int) (hA : (¬ Ne.Ok t ∧ L = [] ∧ E = 50) ∨ (Ne.Ok t ∧ L = Ne.RS t lv so eo ∧ E = 0)) :
    Calls Try.prog 11 #[.slice ao n cap, .int .i64 lv, .int .i64 so, .int .i64 eo] w fun e w' => ∃ a1 c1, e = .returned (.tuple #[.slice a1 L.length c1, .int .i64 E]) ∧ Row .i64 w' a1 L.length c1 L ∧ KO w w' := by
  obtain ⟨ii, hii, hy0, hy1, hy2⟩ := info_parts infoInt
  have HII : Hid (Try.prog.info? 3 = some ii) := hii
  have HY0 := hide hy0
  have HY1 := hide hy1
  have HY2 := hide hy2
  have H := hide h
  have HLEN := hide h.len
  have HA := hide hA
  have h1 : ¬ lv < 0 := by have := hg.1; omega
  have h2 : ¬ 126 < lv := by have := hg.2.1; omega
  have h3 : ¬ so < 1 := by have := hg.2.2.1; omega
  have h4 : ¬ 2 < so := by have := hg.2.2.1; omega
  have h5 : ¬ eo < 1 := by have := hg.2.2.2; omega
  have h6 : ¬ 2 < eo := by have := hg.2.2.2; omega
  have htm : lv.tmod 2 = lv % 2 := Int.tmod_eq_emod_of_nonneg hg.1
  have hes : (lv % 2 = 1 ∧ Ne.es lv = 2) ∨ (lv % 2 = 0 ∧ Ne.es lv = 1) := by
    have : lv % 2 = 1 ∨ lv % 2 = 0 := by omega
    unfold Ne.es
    rcases this with h | h
    · rw [if_pos h]; omega
    · rw [if_neg (by omega)]; omega
  have HES := hide hes
  clear h hA hg hii hy0 hy1 hy2 hes
  go_enter Try.func11, Try.ntmps11
  go_wp2
  go_loopw [10, 11] (fun v10 v11 wr => ∃ k : Nat, k ≤ n ∧ v11 = .int .i64 (k : Int) ∧ Hid (∀ i, i < k → Ne.May (t.getD i 0)) ∧ Hid (RG w (Ne.RT t lv so eo k) k v10 wr)) (fun _ v11 _ => n - (intOf v11).toNat)
  case atStart => exact ⟨0, Nat.zero_le _, rfl, hide (fun i hi => by omega), ⟨World.ownsRow_nil _ _ _ _, Below.refl _ _⟩⟩
  case round =>
    obtain ⟨k, hk, rfl, hall, gm⟩ := hrel
    by_cases hlt : k < n
    · have hin : (k : Int) < (n : Int) := by omega
      have HR := hide (H.out.below gm.out.bel)
      obtain ⟨b, off, rfl, hbl, hc⟩ := HR.out.cells (by omega)
      have ck := hc k (by rw [HLEN.out]; exact hlt)
      have HD := hide (fun w' => dmay_any (t.getD k 0) w')
      by_cases hm : Ne.May (t.getD k 0)
      · rw [decide_eq_true hm] at HD
        have HAL := hide (show ∀ i, i < k + 1 → Ne.May (t.getD i 0) from fun i hi => by
          by_cases e : i = k
          · subst e; exact hm
          · exact hall.out i (by omega))
        have HS := hide (fun w' => dside_any (t.getD k 0) w')
        have HSN := hide (fun (x : Int) (v2 : Value) (w2 : World) (o : Obj) (hx : Ne.r1 t lv so eo k = x) => RG.snoc (w := w) (zs := Ne.RT t lv so eo k) (ys := Ne.RT t lv so eo (k + 1)) (k := k) (x := x) (v2 := v2) (wr := wr) (w2 := w2) (o := o) gm.out.bel (hy := by rw [Ne.RT_succ, hx]))
        have HOW := hide gm.out.own
        have hsz := gm.out.bel.size
        have HM := hide (meas_n0 n k hlt)
        clear hall hm hc hbl gm
        by_cases hs : Ne.sd (t.getD k 0) = 0
        · have hr := Ne.r1_neu (lv := lv) (so := so) (eo := eo) (show k < t.length by rw [HLEN.out]; exact hlt) hs
          rw [HLEN.out] at hr
          have HDN := hide (rdown_any _ n cap t so k wr HR.out hk (by omega))
          have HUP := hide (rup_any _ n cap t eo k wr HR.out hlt (by omega))
          rw [hs] at HS
          clear hs
          generalize t.getD k 0 = x at *
          generalize Ne.ah t so k = u at *
          generalize Ne.ah t.reverse eo (n - 1 - k) = v at *
          by_cases huv : u = v
          · rw [if_pos huv] at hr
            subst huv
            have HX := hide (fun v2 w2 o => HSN.out u v2 w2 o hr)
            clear hr HSN
            go_wp2_with (first | (go_at_call 25; refine (HD.out _).mono ?_; rintro e w' ⟨rfl, rfl⟩) | (go_at_call 26; refine (HS.out _).mono ?_; rintro e w' ⟨rfl, rfl⟩))
            refine HDN.out.mono ?_
            rintro e w' ⟨rfl, rfl⟩
            go_wp2_with fail
            refine HUP.out.mono ?_
            rintro e w' ⟨rfl, rfl⟩
            go_wp2_with (at_builtin; refine wpList_append_row _ rfl (.tmp 67) (.tmp 69) 22 rfl w.heap.size 3 ii (.int .i64 0) 8 Try.underlying22 HII.out HY0.out HY1.out HY2.out rfl _ k _ rfl (HOW.out.alloc _) .i64 _ 1 1 [u] rfl (row_one _ wr.heap.size rfl u) (by omega) (by omega) (by simp; omega) ?_; intro v2 w2 hown2 hb2)
            have HMM := hide (HX.out v2 w2 _ hb2 hown2)
            clear hown2 hb2 HX HOW
            go_roundw
            case rel => exact ⟨k + 1, by omega, by go_num, HAL, HMM⟩
            case measure => exact HM.out
          · rw [if_neg huv] at hr
            have huv2 : (u != v) = true := bne_iff_ne.2 huv
            rcases HES.out with ⟨hp, he⟩ | ⟨hp, he⟩
            · rw [he] at hr
              rw [hp] at htm
              have HX := hide (fun v2 w2 o => HSN.out 2 v2 w2 o hr)
              clear hr HSN hp he huv
              go_wp2_with (first | (go_at_call 25; refine (HD.out _).mono ?_; rintro e w' ⟨rfl, rfl⟩) | (go_at_call 26; refine (HS.out _).mono ?_; rintro e w' ⟨rfl, rfl⟩))
              refine HDN.out.mono ?_
              rintro e w' ⟨rfl, rfl⟩
              go_wp2_with fail
              refine HUP.out.mono ?_
              rintro e w' ⟨rfl, rfl⟩
              go_wp2_with (at_builtin; refine wpList_append_row _ rfl (.tmp 67) (.tmp 69) 22 rfl w.heap.size 3 ii (.int .i64 0) 8 Try.underlying22 HII.out HY0.out HY1.out HY2.out rfl _ k _ rfl (HOW.out.alloc _) .i64 _ 1 1 [2] rfl (row_one _ wr.heap.size rfl 2) (by omega) (by omega) (by simp; omega) ?_; intro v2 w2 hown2 hb2)
              have HMM := hide (HX.out v2 w2 _ hb2 hown2)
              clear hown2 hb2 HX HOW
              go_roundw
              case rel => exact ⟨k + 1, by omega, by go_num, HAL, HMM⟩
              case measure => exact HM.out
            · rw [he] at hr
              rw [hp] at htm
              have HX := hide (fun v2 w2 o => HSN.out 1 v2 w2 o hr)
              clear hr HSN hp he huv
              go_wp2_with (first | (go_at_call 25; refine (HD.out _).mono ?_; rintro e w' ⟨rfl, rfl⟩) | (go_at_call 26; refine (HS.out _).mono ?_; rintro e w' ⟨rfl, rfl⟩))
              refine HDN.out.mono ?_
              rintro e w' ⟨rfl, rfl⟩
              go_wp2_with fail
              refine HUP.out.mono ?_
              rintro e w' ⟨rfl, rfl⟩
              go_wp2_with (at_builtin; refine wpList_append_row _ rfl (.tmp 67) (.tmp 69) 22 rfl w.heap.size 3 ii (.int .i64 0) 8 Try.underlying22 HII.out HY0.out HY1.out HY2.out rfl _ k _ rfl (HOW.out.alloc _) .i64 _ 1 1 [1] rfl (row_one _ wr.heap.size rfl 1) (by omega) (by omega) (by simp; omega) ?_; intro v2 w2 hown2 hb2)
              have HMM := hide (HX.out v2 w2 _ hb2 hown2)
              clear hown2 hb2 HX HOW
              go_roundw
              case rel => exact ⟨k + 1, by omega, by go_num, HAL, HMM⟩
              case measure => exact HM.out
        · have HX := hide (fun v2 w2 o => HSN.out _ v2 w2 o (Ne.r1_side hs))
          clear HSN
          generalize t.getD k 0 = x at *
          generalize Ne.sd x = y at *
          have hy : (y == 0) = false := beq_false_of_ne hs
          clear hs
          go_wp2_with (first
            | (go_at_call 25; refine (HD.out _).mono ?_; rintro e w' ⟨rfl, rfl⟩)
            | (go_at_call 26; refine (HS.out _).mono ?_; rintro e w' ⟨rfl, rfl⟩)
            | (at_builtin; refine wpList_append_row _ rfl (.tmp 67) (.tmp 69) 22 rfl w.heap.size 3 ii (.int .i64 0) 8 Try.underlying22 HII.out HY0.out HY1.out HY2.out rfl _ k _ rfl (HOW.out.alloc _) .i64 _ 1 1 [x] rfl (row_one _ wr.heap.size rfl x) (by omega) (by omega) (by simp; omega) ?_; intro v2 w2 hown2 hb2))
          have HMM := hide (HX.out v2 w2 _ hb2 hown2)
          clear hown2 hb2 HX HOW
          go_roundw
          case rel => exact ⟨k + 1, by omega, by go_num, HAL, HMM⟩
          case measure => exact HM.out
      · rw [decide_eq_false hm] at HD
        have HE := hide (show L = [] ∧ E = 50 from by
          rcases HA.out with ⟨_, h1, h2⟩ | ⟨h1, _⟩
          · exact ⟨h1, h2⟩
          · exact absurd (h1 k (by rw [HLEN.out]; exact hlt)) hm)
        have HKW := hide gm.out.bel
        clear hm hc hbl hall gm
        generalize t.getD k 0 = x at *
        go_wp2_with (go_at_call 25; refine (HD.out _).mono ?_; rintro e w' ⟨rfl, rfl⟩)
        obtain ⟨rfl, rfl⟩ := HE.out
        go_ret2
        exact ⟨none, 0, rfl, row_nil _ _, HKW.out⟩
    · obtain rfl : k = n := by omega
      have hne : ¬ ((k : Int) < (k : Int)) := by omega
      have HE := hide (show L = Ne.RT t lv so eo k ∧ E = 0 ∧ (Ne.RT t lv so eo k).length = k from by
        have e : Ne.RT t lv so eo k = Ne.RS t lv so eo := by unfold Ne.RT Ne.RS; rw [HLEN.out]
        rcases HA.out with ⟨h1, _⟩ | ⟨_, h1, h2⟩
        · exact absurd (fun i hi => hall.out i (by rw [HLEN.out] at hi; exact hi)) h1
        · exact ⟨by rw [e]; exact h1, h2, by simp [Ne.RT]⟩)
      obtain ⟨a1, c1, rfl, hr1⟩ := row_of_owns gm.out.own
      have HWW := hide (show Row .i64 wr a1 k c1 (Ne.RT t lv so eo k) ∧ KO w wr from ⟨hr1, gm.out.bel⟩)
      clear gm hlt hall hr1
      go_wp2
      obtain ⟨rfl, rfl, hl⟩ := HE.out
      go_ret2
      rw [hl]
      exact ⟨_, _, rfl, HWW.out.1, HWW.out.2⟩
theorem rresolve_any (ao : Option Addr) (n cap : Nat) (lv so eo : Int) (t : List Int) (w : World) (h : Row .i64 w ao n cap t) (hn : n ≤ 500) (L : List Int) (E : Int) (hA : Ne.AR t lv so eo L E) :
    Calls Try.prog 11 #[.slice ao n cap, .int .i64 lv, .int .i64 so, .int .i64 eo] w fun e w' => ∃ a1 c1, e = .returned (.tuple #[.slice a1 L.length c1, .int .i64 E]) ∧ Row .i64 w' a1 L.length c1 L ∧ KO w w' := by
  rcases hA with ⟨hg, rfl, rfl⟩ | ⟨hg, ho, rfl, rfl⟩ | ⟨hg, ho, rfl, rfl⟩
  · exact (rresolve_bad ao n cap lv so eo w hg).mono fun e w' ⟨he, hk⟩ => ⟨none, 0, he, row_nil _ _, by rw [← hk]; exact KO.refl _⟩
  · exact rresolve_go ao n cap lv so eo t w h hn hg _ _ (.inl ⟨ho, rfl, rfl⟩)
  · exact rresolve_go ao n cap lv so eo t w h hn hg _ _ (.inr ⟨ho, rfl, rfl⟩)
end Go.Proofs.Ytbpjacalnipkgaa
