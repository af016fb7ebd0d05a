/- The contracts of measure, Count and Cut. -/
import Derived.Test.YtkcalmighgdojabRead
import Derived.Test.YtkcalmighgdojabArgs
namespace Go.Proofs.Ytkcalmighgdojab
open Go.RowKit
set_option linter.unusedVariables false
theorem read_any (b off n cap : Nat) (xs : List Int) (w : World) (hn : xs.length = n) (h0 : 0 < n) (hcap : n ≤ cap) (hm : cap ≤ maxLen) (hb : Bytes xs) (hc : Cells .u8 w b off xs) :
    Calls Try.prog 13 #[.slice (some ⟨b, off, none⟩) n cap] w fun e w' => e = .returned (.tuple #[.int .i32 (Utf.read xs).1, .int .i64 (Utf.read xs).2]) ∧ w = w' := by
  cases xs with
  | nil => simp at hn; omega
  | cons c cs =>
    simp only [List.length_cons] at hn
    subst hn
    exact read_cons b off cap c cs w hcap hm hb hc
set_option maxHeartbeats 400000 in
theorem measure_nil (ao : Option Addr) (cap : Nat) (w : World) (hm : cap ≤ maxLen) :
    Calls Try.prog 12 #[.slice ao 0 cap] w fun e w' => e = .returned (.tuple #[.int .i64 0, .int .i64 0]) ∧ w = w' := by
  unfold maxLen at hm
  go_enter Try.func12, Try.ntmps12
  go_wp2
  refine wp_loop_rounds 1 ?_
  rw [rounds_succ]
  go_wp2_with (go_at_call 13; refine (read_nil _ _ _).mono ?_; rintro e w' ⟨rfl, rfl⟩)
  all_goals
    go_ret2
    exact ⟨rfl, rfl⟩
set_option maxHeartbeats 400000 in
theorem measure_some (b off n cap : Nat) (xs : List Int) (w : World) (hn : xs.length = n) (h0 : 0 < n) (hcap : n ≤ cap) (hm : cap ≤ maxLen) (hb : Bytes xs) (hc : Cells .u8 w b off xs) :
    Calls Try.prog 12 #[.slice (some ⟨b, off, none⟩) n cap] w fun e w' => e = .returned (.tuple #[.int .i64 (Utf.dec xs).1.length, .int .i64 (Utf.dec xs).2]) ∧ w = w' := by
  have hm' := hm
  unfold maxLen at hm
  have HC := hide hc
  have HB := hide hb
  have HN := hide hn
  have HM := hide hm'
  clear hc hb hn hm'
  go_enter Try.func12, Try.ntmps12
  go_wp2
  go_loop [2, 3] (fun c i => ∃ (k e : Nat), c = .int .i64 k ∧ i = .int .i64 e ∧ e ≤ n ∧ k ≤ e ∧ Hid (Utf.Went xs k e)) (fun _ i => n - (intOf i).toNat)
  case atStart => exact ⟨0, 0, rfl, rfl, Nat.zero_le _, Nat.le_refl _, Utf.Went.start xs⟩
  case round =>
    obtain ⟨k, e, rfl, rfl, he, hk, hw⟩ := hrel
    by_cases hlt : e < n
    · have hrd := hide (read_any b (off + e) (n - e) (cap - e) (xs.drop e) w (by rw [List.length_drop, HN.out]) (by omega) (by omega) (by have := HM.out; omega) (HB.out.drop e) (HC.out.drop e))
      have hbd := Utf.read_bounds (xs.drop e)
      rw [List.length_drop, HN.out] at hbd
      have HS := hide (fun h => hw.out.step (xs := xs) (k := k) (e := e) h)
      have HT := hide (fun h => hw.out.stop (xs := xs) (k := k) (e := e) h)
      rcases hR : Utf.read (xs.drop e) with ⟨v, s⟩
      rw [hR] at hrd hbd HS HT
      simp only at hbd
      obtain ⟨hb1, hb2, hb3, _⟩ := hbd
      clear hR
      by_cases hz : s = 0
      · have HX := hide (HT.out hz)
        have hz' : (s == 0) = true := by simp [hz]
        clear HT HS hz
        go_wp2_with (go_at_call 13; refine hrd.out.mono ?_; rintro e w' ⟨rfl, rfl⟩)
        all_goals
          go_ret2
          rw [HX.out.1, HX.out.2]
          exact ⟨rfl, rfl⟩
      · have HX := hide (HS.out hz)
        have hz' : (s == 0) = false := by simp [hz]
        clear HT HS
        go_wp2_with (go_at_call 13; refine hrd.out.mono ?_; rintro e w' ⟨rfl, rfl⟩)
        all_goals
          go_round
          case rel => exact ⟨k + 1, e + s.toNat, by go_num, by go_num, by omega, by omega, HX⟩
          case measure => simp [intOf]; omega
    · have hen : e = n := by omega
      have hl : (Utf.read (xs.drop e)).2 = 0 := by rw [List.drop_of_length_le (by have := HN.out; omega)]; rfl
      have HX := hide (hw.out.stop hl)
      clear hl hlt
      subst hen
      go_wp2_with (go_at_call 13; refine (read_nil _ _ _).mono ?_; rintro e w' ⟨rfl, rfl⟩)
      all_goals
        go_ret2
        rw [HX.out.1, HX.out.2]
        exact ⟨rfl, rfl⟩
theorem measure_any (ao : Option Addr) (n cap : Nat) (xs : List Int) (w : World) (h : Row .u8 w ao n cap xs) (hb : Bytes xs) :
    Calls Try.prog 12 #[.slice ao n cap] w fun e w' => e = .returned (.tuple #[.int .i64 (Utf.dec xs).1.length, .int .i64 (Utf.dec xs).2]) ∧ w = w' := by
  obtain ⟨hn, hcap, hm, hc, _⟩ := h
  by_cases h0 : n = 0
  · subst h0
    obtain rfl : xs = [] := List.length_eq_zero_iff.1 hn
    exact measure_nil ao cap w hm
  · obtain ⟨b, off, rfl, _, hc⟩ := hc (by omega)
    exact measure_some b off n cap xs w hn (by omega) hcap hm hb hc
/-- How many, and whether it is a text. -/
def whole (xs : List Int) : Bool := (Utf.dec xs).2 == xs.length
set_option maxHeartbeats 400000 in
theorem count_yes (ao : Option Addr) (n cap : Nat) (xs : List Int) (w : World) (h : Row .u8 w ao n cap xs) (hb : Bytes xs) (hw : (Utf.dec xs).2 = n) :
    Calls Try.prog 7 #[.slice ao n cap] w fun e w' => e = .returned (.tuple #[.int .i64 (Utf.dec xs).1.length, .int .i64 0]) ∧ w = w' := by
  have hd := hide (measure_any ao n cap xs w h hb)
  rw [hw] at hd
  have hm := h.le
  have hx := h.max
  unfold maxLen at hx
  clear h
  go_enter Try.func7, Try.ntmps7
  go_wp2_with (go_at_call 12; refine hd.out.mono ?_; rintro e w' ⟨rfl, rfl⟩)
  go_ret2
  exact ⟨rfl, rfl⟩
set_option maxHeartbeats 400000 in
theorem count_no (ao : Option Addr) (n cap : Nat) (xs : List Int) (w : World) (h : Row .u8 w ao n cap xs) (hb : Bytes xs) (hw : (Utf.dec xs).2 < n) :
    Calls Try.prog 7 #[.slice ao n cap] w fun e w' => e = .returned (.tuple #[.int .i64 0, .int .i64 10]) ∧ w = w' := by
  have hd := hide (measure_any ao n cap xs w h hb)
  generalize (Utf.dec xs).2 = m at *
  have hm := h.le
  have hx := h.max
  unfold maxLen at hx
  clear h
  go_enter Try.func7, Try.ntmps7
  go_wp2_with (go_at_call 12; refine hd.out.mono ?_; rintro e w' ⟨rfl, rfl⟩)
  go_ret2
  exact ⟨rfl, rfl⟩
set_option maxHeartbeats 400000 in
theorem cut_any (ao : Option Addr) (n cap : Nat) (m : Int) (xs : List Int) (w : World) (h : Row .u8 w ao n cap xs) (hb : Bytes xs) :
    Calls Try.prog 8 #[.slice ao n cap, .int .i64 m] w fun e w' => e = .returned (.int .i64 (Utf.dec (xs.take m.toNat)).2) ∧ w = w' := by
  have hx := h.max
  have hc := h.le
  unfold maxLen at hx
  by_cases h0 : m < 0
  · have e0 : Hid ((Utf.dec (xs.take m.toNat)).2 = 0) := by
      rw [show m.toNat = 0 from by omega]; simp [Hid, Utf.dec_nil]
    clear h
    go_enter Try.func8, Try.ntmps8
    go_wp2
    go_ret
    rw [e0.out]
    exact ⟨rfl, rfl⟩
  · obtain ⟨m, rfl⟩ := Int.eq_ofNat_of_zero_le (Int.not_lt.1 h0)
    rw [Int.toNat_natCast]
    by_cases hmn : m ≤ n
    · have hd := hide (measure_any ao m cap (xs.take m) w (h.take hmn) (hb.take m))
      clear h
      go_enter Try.func8, Try.ntmps8
      go_wp2_with (go_at_call 12; refine hd.out.mono ?_; rintro e w' ⟨rfl, rfl⟩)
      go_ret
      exact ⟨rfl, rfl⟩
    · have hd := hide (measure_any ao n cap xs w h hb)
      rw [List.take_of_length_le (by have := h.len; omega)]
      clear h
      go_enter Try.func8, Try.ntmps8
      go_wp2_with (go_at_call 12; refine hd.out.mono ?_; rintro e w' ⟨rfl, rfl⟩)
      go_ret
      exact ⟨rfl, rfl⟩
end Go.Proofs.Ytkcalmighgdojab
