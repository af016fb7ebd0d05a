/- The document's Side, May, has, ahead, gets (colophonref10): contracts. -/
import Derived.Test.YtkkmifpdhcdkpaaDoorBd
namespace Go.Proofs.YtkkmifpdhcdkpaaDoor
open Go.RowKit
set_option linter.unusedVariables false
set_option maxHeartbeats 1000000
set_option maxRecDepth 100000
theorem dside_any (x : Int) (w : World) : Calls Tryd.prog 41 #[.int .i64 x] w fun e w' => e = .returned (.int .i64 (Br.sd x)) ∧ w = w' := by
  rcases side_cases x with rfl | ⟨h1, rfl⟩ | ⟨h1, h2, rfl⟩ | ⟨h1, h2, h3, rfl⟩ | ⟨h1, h2, h3, h4⟩
  rotate_left 4
  · have e : Br.sd x = 0 := by simp [Br.sd, h1, h2, h3, h4]
    have q1 : (x == 1) = false := beq_false_of_ne h1
    have q2 : (x == 2) = false := beq_false_of_ne h2
    have q3 : (x == 4) = false := beq_false_of_ne h3
    have q4 : (x == 7) = false := beq_false_of_ne h4
    rw [e]; clear e
    go_enter Tryd.func41, Tryd.ntmps41
    go_wp2
    go_ret
    exact ⟨rfl, rfl⟩
  all_goals
    go_enter Tryd.func41, Tryd.ntmps41
    go_wp2
    go_ret
    exact ⟨rfl, rfl⟩
theorem dmay_any (x : Int) (w : World) : Calls Tryd.prog 30 #[.int .i64 x] w fun e w' => e = .returned (.bool (Br.may x)) ∧ w = w' := by
  have HS := hide (dside_any x w)
  rcases may_cases x with rfl | ⟨h1, rfl⟩ | ⟨h1, h2, rfl⟩ | ⟨h1, h2, h3, rfl⟩ | ⟨h1, h2, h3, h4, rfl⟩ | ⟨h1, h2, h3, h4, h5, rfl⟩ | ⟨h1, h2, h3, h4, h5, h6, rfl⟩ | ⟨h1, h2, h3, h4, h5, h6, h7, rfl⟩ | ⟨h1, h2, h3, h4, h5, h6, h7, h8, rfl⟩ | ⟨h1, h2, h3, h4, h5, h6, h7, h8, h9, rfl⟩ | ⟨h1, h2, h3, h4, h5, h6, h7, h8, h9, h10, rfl⟩ | ⟨h1, h2, h3, h4, h5, h6, h7, h8, h9, h10, h11, rfl⟩ | ⟨h1, h2, h3, h4, h5, h6, h7, h8, h9, h10, h11, h12⟩
  rotate_left 12
  · have e : Br.may x = false := by simp [Br.may, h1, h2, h3, h4, h5, h6, h7, h8, h9, h10, h11, h12]
    have es : Br.sd x = 0 := by simp [Br.sd, h1, h2, h3, h4]
    rw [e]; rw [es] at HS; clear e es
    have q5 : (x == 11) = false := beq_false_of_ne h5
    have q6 : (x == 12) = false := beq_false_of_ne h6
    have q7 : (x == 13) = false := beq_false_of_ne h7
    have q8 : (x == 14) = false := beq_false_of_ne h8
    have q9 : (x == 20) = false := beq_false_of_ne h9
    have q10 : (x == 21) = false := beq_false_of_ne h10
    have q11 : (x == 22) = false := beq_false_of_ne h11
    have q12 : (x == 23) = false := beq_false_of_ne h12
    go_enter Tryd.func30, Tryd.ntmps30
    go_wp2_with (go_at_call 41; refine HS.out.mono ?_; rintro e w' ⟨rfl, rfl⟩)
    go_ret
    exact ⟨rfl, rfl⟩
  all_goals
    simp only [Br.sd] at HS
    go_enter Tryd.func30, Tryd.ntmps30
    go_wp2_with (go_at_call 41; refine HS.out.mono ?_; rintro e w' ⟨rfl, rfl⟩)
    go_ret
    exact ⟨rfl, rfl⟩
theorem dhas_any (ao : Option Addr) (n cap : Nat) (zs : List Int) (s : Int) (w : World) (h : Row .i64 w ao n cap zs) (hn : n ≤ 17592186044416) :
    Calls Tryd.prog 42 #[.slice ao n cap, .int .i64 s] w fun e w' => e = .returned (.bool (Br.has zs s)) ∧ w = w' := by
  have H := hide h
  have HL := hide h.len
  clear h
  go_enter Tryd.func42, Tryd.ntmps42
  go_wp2
  go_loopw [5] (fun s5 wr => ∃ k : Nat, s5 = .int .i64 (k : Int) ∧ k ≤ n ∧ Hid (Br.has (zs.take k) s = false) ∧ w = wr) (fun s5 _ => n - (intOf s5).toNat)
  case atStart => exact ⟨0, rfl, Nat.zero_le _, hide rfl, rfl⟩
  case round =>
    obtain ⟨k, rfl, hk, HA, rfl⟩ := hrel
    by_cases hlt : k < n
    · have hlt' : (k : Int) < (n : Int) := by omega
      obtain ⟨b, off, rfl, hb, hc⟩ := H.out.cells (by omega)
      have g0 := hc k (by rw [HL.out]; exact hlt)
      have HS := hide (dside_any (zs.getD k 0) w)
      have HN := hide (Br.has_next (s := s) (show k < zs.length by rw [HL.out]; exact hlt))
      clear hc hb
      by_cases hs : Br.sd (zs.getD k 0) = s
      · have HE : Hid (Br.has zs s = true) := hide (Br.has_all (i := k + 1) (by rw [HN.out, decide_eq_true hs, Bool.or_true]))
        rw [hs] at HS
        clear HN HA hs
        generalize zs.getD k 0 = x at *
        go_wp2_with (go_at_call 41; refine HS.out.mono ?_; rintro e w' ⟨rfl, rfl⟩)
        go_ret
        exact ⟨ret_bool HE.out.symm, rfl⟩
      · have HE : Hid (Br.has (zs.take (k + 1)) s = false) := hide (by rw [HN.out, HA.out, decide_eq_false hs]; rfl)
        clear HN HA
        generalize zs.getD k 0 = x at *
        generalize Br.sd x = y at *
        have hy : (y == s) = false := beq_false_of_ne hs
        go_wp2_with (go_at_call 41; refine HS.out.mono ?_; rintro e w' ⟨rfl, rfl⟩)
        go_roundw
        case rel => exact ⟨k + 1, by go_num, by omega, HE, trivial⟩
        case measure => simp [intOf]; omega
    · obtain rfl : k = n := by omega
      have hne : ¬ ((k : Int) < (k : Int)) := by omega
      have HE : Hid (Br.has zs s = false) := hide (by have := HA.out; rwa [List.take_of_length_le (by rw [HL.out]; exact Nat.le_refl _)] at this)
      clear HA
      go_wp2
      go_ret
      exact ⟨ret_bool HE.out.symm, rfl⟩
theorem dahead_any (ao : Option Addr) (n cap i : Nat) (zs : List Int) (s : Int) (w : World) (h : Row .i64 w ao n cap zs) (hi : i ≤ n) (hn : n ≤ 17592186044416) :
    Calls Tryd.prog 43 #[.slice ao n cap, .int .i64 (i : Int), .int .i64 s] w fun e w' => e = .returned (.int .i64 (Br.ah zs s i)) ∧ w = w' := by
  have H := hide h
  clear h
  go_enter Tryd.func43, Tryd.ntmps43
  go_wp2
  go_loopw [7] (fun s7 wr => ∃ k : Nat, s7 = .int .i64 ((k : Int) - 1) ∧ k ≤ i ∧ Hid (Br.ah zs s i = Br.ah zs s k) ∧ w = wr) (fun s7 _ => (intOf s7 + 1).toNat)
  case atStart => exact ⟨i, rfl, Nat.le_refl _, hide rfl, rfl⟩
  case round =>
    obtain ⟨k, rfl, hk, HA, rfl⟩ := hrel
    cases k with
    | zero =>
      have HE : Hid (Br.ah zs s i = s) := hide (by rw [HA.out]; rfl)
      clear HA
      go_wp2
      go_ret
      exact ⟨ret_int HE.out.symm, rfl⟩
    | succ k =>
      obtain ⟨b, off, rfl, hb, hc⟩ := H.out.cells (by omega)
      have g0 := hc k (by rw [H.out.len]; omega)
      have hkn : (k : Int) < (n : Int) := by omega
      have hk0 : (0 : Int) ≤ (k : Int) := by omega
      have hki : ((k + 1 : Nat) : Int) - 1 = (k : Int) := by omega
      rw [hki]
      have HS := hide (dside_any (zs.getD k 0) w)
      by_cases hs : Br.sd (zs.getD k 0) = 0
      · have HE : Hid (Br.ah zs s i = Br.ah zs s k) := hide (by rw [HA.out, Br.ah, if_pos hs])
        rw [hs] at HS
        clear HA hs hc hb
        generalize zs.getD k 0 = x at *
        go_wp2_with (go_at_call 41; refine HS.out.mono ?_; rintro e w' ⟨rfl, rfl⟩)
        go_roundw
        case rel => exact ⟨k, rfl, by omega, HE, trivial⟩
        case measure => simp [intOf]
      · have HE : Hid (Br.ah zs s i = Br.sd (zs.getD k 0)) := hide (by rw [HA.out, Br.ah, if_neg hs])
        clear HA hc hb
        generalize zs.getD k 0 = x at *
        generalize Br.sd x = y at *
        have hy : (y != 0) = true := bne_iff_ne.2 hs
        go_wp2_with (go_at_call 41; refine HS.out.mono ?_; rintro e w' ⟨rfl, rfl⟩)
        go_ret
        exact ⟨ret_int HE.out.symm, rfl⟩
theorem dgets_any (ao : Option Addr) (n cap : Nat) (T : List Int) (p q : Nat) (e s : Int) (w : World) (h : Row .i64 w ao n cap T) (hn : n ≤ 17592186044416) (h1 : p < q) (h2 : q < n) (he : e = 1 ∨ e = 2) :
    Calls Tryd.prog 31 #[.slice ao n cap, .agg #[.int .i64 (p : Int), .int .i64 (q : Int)], .int .i64 e, .int .i64 s] w fun r w' => r = .returned (.int .i64 (Br.dr T (p, q) e s)) ∧ KO w w' := by
  obtain ⟨ii, hii, _, _, _⟩ := info_parts infoInt
  have hcap := h.le
  have hmx := h.max
  unfold maxLen at hmx
  have hmid := run_mid Tryd.underlying23 hii cellsInt ao n cap (p + 1) q (by omega) (by omega)
  rw [show ((p + 1 : Nat) : Int) = (p : Int) + 1 from by omega] at hmid
  have hk1 : KO w (w.alloc (.cells #[.int .i64 (p : Int), .int .i64 (q : Int)] 42)) := KO.alloc (KO.refl _) _
  have hrI : Row .i64 (w.alloc (.cells #[.int .i64 (p : Int), .int .i64 (q : Int)] 42)) (tl ao cap (p + 1)) (q - (p + 1)) (cap - (p + 1)) (Br.ins T (p, q)) := ((h.below hk1).drop (j := p + 1) (by omega)).take (by omega)
  have HD : Hid (Br.dr T (p, q) e s = if Br.has (Br.ins T (p, q)) e = true then e else if Br.has (Br.ins T (p, q)) (3 - e) = true then (if Br.ah T s p = 3 - e then 3 - e else e) else 0) := hide rfl
  obtain ⟨g0, g1⟩ := cells2 w (.int .i64 (p : Int)) (.int .i64 (q : Int)) 42
  have HH1 := hide (dhas_any _ _ _ _ e _ hrI (by omega))
  have HH2 := hide (dhas_any _ _ _ _ (3 - e) _ hrI (by omega))
  have HAH := hide (dahead_any ao n cap p T s _ (h.below hk1) (by omega) hn)
  have HKO := hide hk1
  have he3 : (0 : Int) ≤ 3 - e ∧ 3 - e ≤ 3 := by omega
  clear h hk1 hrI hii
  generalize hW : w.alloc (.cells #[.int .i64 (p : Int), .int .i64 (q : Int)] 42) = W at *
  generalize Br.has (Br.ins T (p, q)) e = b1 at *
  generalize Br.has (Br.ins T (p, q)) (3 - e) = b2 at *
  generalize hAHV : Br.ah T s p = av at *
  cases b1 with
  | true =>
    have HX : Hid (Br.dr T (p, q) e s = e) := hide (by rw [HD.out, if_pos rfl])
    clear HD
    go_enter Tryd.func31, Tryd.ntmps31
    go_wp2_with fail
    refine HH1.out.mono ?_
    rintro e' w' ⟨rfl, rfl⟩
    go_wp2
    go_ret
    exact ⟨ret_int HX.out.symm, HKO.out⟩
  | false =>
    cases b2 with
    | false =>
      have HX : Hid (Br.dr T (p, q) e s = 0) := hide (by rw [HD.out, if_neg (by decide), if_neg (by decide)])
      clear HD
      go_enter Tryd.func31, Tryd.ntmps31
      go_wp2_with fail
      refine HH1.out.mono ?_
      rintro e' w' ⟨rfl, rfl⟩
      go_wp2_with fail
      refine HH2.out.mono ?_
      rintro e' w' ⟨rfl, rfl⟩
      go_wp2
      go_ret
      exact ⟨ret_int HX.out.symm, HKO.out⟩
    | true =>
      by_cases hah : av = 3 - e
      · have HX : Hid (Br.dr T (p, q) e s = 3 - e) := hide (by rw [HD.out, if_neg (by decide), if_pos rfl, if_pos hah])
        subst hah
        clear HD
        go_enter Tryd.func31, Tryd.ntmps31
        go_wp2_with fail
        refine HH1.out.mono ?_
        rintro e' w' ⟨rfl, rfl⟩
        go_wp2_with fail
        refine HH2.out.mono ?_
        rintro e' w' ⟨rfl, rfl⟩
        go_wp2_with fail
        refine HAH.out.mono ?_
        rintro e' w' ⟨rfl, rfl⟩
        go_wp2
        go_ret
        exact ⟨ret_int HX.out.symm, HKO.out⟩
      · have HX : Hid (Br.dr T (p, q) e s = e) := hide (by rw [HD.out, if_neg (by decide), if_pos rfl, if_neg hah])
        have hab : (av == 3 - e) = false := beq_false_of_ne hah
        clear HD
        go_enter Tryd.func31, Tryd.ntmps31
        go_wp2_with fail
        refine HH1.out.mono ?_
        rintro e' w' ⟨rfl, rfl⟩
        go_wp2_with fail
        refine HH2.out.mono ?_
        rintro e' w' ⟨rfl, rfl⟩
        go_wp2_with fail
        refine HAH.out.mono ?_
        rintro e' w' ⟨rfl, rfl⟩
        go_wp2
        go_ret
        exact ⟨ret_int HX.out.symm, HKO.out⟩
end Go.Proofs.YtkkmifpdhcdkpaaDoor
