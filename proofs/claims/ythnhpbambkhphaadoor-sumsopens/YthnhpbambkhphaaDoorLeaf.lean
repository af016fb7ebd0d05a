/- Contracts of shiftHalf, More, Crc, and names. -/
import Derived.Test.YthnhpbambkhphaaDoorRows
import Derived.Test.YthnhpbambkhphaaDoorSm
import Derived.Test.YthnhpbambkhphaaDoorArgs
import Derived.WalkKit
import Derived.WalkSpells
import Derived.WalkLawsBesides
import Derived.Outline
namespace Go.Proofs.YthnhpbambkhphaaDoor
open Go.RowKit
set_option linter.unusedVariables false
/-- The table of halves lies where start-up laid it. -/
def Tab (w : World) : Prop := ∀ i, i < 16 → w.cell? ⟨0, i, none⟩ = some (.int .u32 (Sums.tab.getD i 0))
theorem Tab.lt {w : World} (h : Tab w) : 0 < w.heap.size := World.block_lt_of_cell? w _ (h 0 (by omega))
theorem Tab.below {w w' : World} (h : Tab w) (hb : Below w.heap.size w w') : Tab w' := fun i hi => (hb.cell (p := ⟨0, i, none⟩) h.lt).trans (h i hi)
theorem Tab.belowAt {w w' : World} {B : Nat} (h : Tab w) (hb : Below B w w') (hB : 0 < B) : Tab w' := fun i hi => (hb.cell (p := ⟨0, i, none⟩) hB).trans (h i hi)
theorem half_int (s : Nat) (h : s < 4294967296) : bits .xor .u32 ((s : Int) / 16) (Sums.tab.getD (s % 16) 0) = ((Sums.half s : Nat) : Int) := by
  have hr := Sums.row_lt (s % 16) (by omega)
  rw [hr.2, show (s : Int) / 16 = ((s / 16 : Nat) : Int) from by omega, u32_xor_nat _ _ (by omega) hr.1]
  rfl
theorem low_int (s : Nat) (h : s < 4294967296) : bits .and .u32 (s : Int) 15 = ((s % 16 : Nat) : Int) := by
  rw [show (15 : Int) = ((15 : Nat) : Int) from rfl, u32_and_nat _ _ h (by omega), nat_mask4]
theorem not_int (s : Nat) (h : s < 4294967296) : bits .xor .u32 IntKind.u32.max (s : Int) = ((Sums.M ^^^ s : Nat) : Int) := by
  rw [show IntKind.u32.max = ((Sums.M : Nat) : Int) from rfl, u32_xor_nat _ _ (by decide) h]
theorem in_int (s : Nat) (c : Int) (h : s < 4294967296) (hc : 0 ≤ c ∧ c ≤ 255) : bits .xor .u32 (s : Int) c = ((s ^^^ c.toNat : Nat) : Int) := by
  obtain ⟨m, rfl⟩ := Int.eq_ofNat_of_zero_le hc.1
  rw [u32_xor_nat _ _ h (by omega), Int.toNat_natCast]
set_option maxHeartbeats 400000 in
theorem shift_any (s : Nat) (w : World) (h : s < 4294967296) (ht : Tab w) :
    Calls Tryd.prog 19 #[.int .u32 s] w fun e w' => e = .returned (.int .u32 ((Sums.half s : Nat) : Int)) ∧ w = w' := by
  have hc := ht (s % 16) (by omega)
  have hx := low_int s h
  have HX := hide (half_int s h)
  have hm : s % 16 < 16 := by omega
  clear ht
  generalize Sums.tab.getD (s % 16) 0 = z at *
  generalize s % 16 = m at *
  go_enter Tryd.func19, Tryd.ntmps19
  go_wp2
  go_ret
  exact ⟨ret_int HX.out, rfl⟩
theorem run_lt' {xs : List Int} (hb : Bytes xs) {s : Nat} (h : s < 4294967296) (k : Nat) : Sums.run s (xs.take k) < 4294967296 := Sums.run_lt (hb.take k) h
set_option maxHeartbeats 1000000 in
theorem more_any (s : Nat) (ao : Option Addr) (n cap : Nat) (xs : List Int) (w : World) (hs : s < 4294967296) (h : Row .u8 w ao n cap xs) (hb : Bytes xs) (ht : Tab w) :
    Calls Tryd.prog 16 #[.int .u32 s, .slice ao n cap] w fun e w' => e = .returned (.int .u32 ((Sums.more s xs : Nat) : Int)) ∧ w = w' := by
  have hx := h.max
  have hle := h.le
  unfold maxLen at hx
  have HR := hide h
  have HL := hide h.len
  have HB := hide hb
  have HT := hide ht
  have hn := not_int s hs
  have hM : Sums.M ^^^ s < 4294967296 := Nat.xor_lt_two_pow (n := 32) Sums.M_lt hs
  have HM := hide hM
  clear h hb ht hM
  generalize hS : Sums.M ^^^ s = S at *
  have HS := hide hS
  clear hS
  go_enter Tryd.func16, Tryd.ntmps16
  go_wp2
  go_loop [5, 12] (fun t i => ∃ k : Nat, k ≤ n ∧ i = .int .i64 k ∧ t = .int .u32 ((Sums.run S (xs.take k) : Nat) : Int)) (fun _ i => n - (intOf i).toNat)
  case atStart => exact ⟨0, Nat.zero_le _, rfl, rfl⟩
  case round =>
    obtain ⟨k, hk, rfl, rfl⟩ := hrel
    have hlt' := run_lt' HB.out HM.out k
    by_cases hlt : k < n
    · obtain ⟨b, off, rfl, _, hc⟩ := HR.out.cells (by omega)
      have hck := hc k (by have := HL.out; omega)
      have hbk := HB.out.getD k
      have hin := in_int _ _ hlt' hbk
      have HX := hide (Sums.run_snoc S xs k (by have := HL.out; omega))
      clear hc hn
      generalize Sums.run S (xs.take k) = q at *
      generalize xs.getD k 0 = c at *
      have hq : q ^^^ c.toNat < 4294967296 := Nat.xor_lt_two_pow (n := 32) hlt' (by omega)
      have H8 := hide (Sums.halves_eq (q ^^^ c.toNat))
      generalize hQ : q ^^^ c.toNat = q2 at *
      have hq3 := Sums.half_lt hq
      go_wp2_with (go_at_call 19; refine (shift_any _ _ (by assumption) HT.out).mono ?_; rintro e w' ⟨rfl, rfl⟩)
      go_round
      case rel => exact ⟨k + 1, by omega, by go_num, by rw [HX.out, H8.out, ← hQ]; rfl⟩
      case measure => simp [intOf]; omega
    · obtain rfl : k = n := by omega
      have HE : Hid (bits .xor .u32 IntKind.u32.max ((Sums.run S (xs.take k) : Nat) : Int) = ((Sums.more s xs : Nat) : Int)) := by
        have ht : xs.take k = xs := List.take_of_length_le (by have := HL.out; omega)
        have e := not_int _ hlt'
        rw [ht, ← HS.out] at e
        rw [ht, ← HS.out]
        exact e
      clear hn
      go_wp2
      go_ret
      exact ⟨ret_int HE.out, rfl⟩
set_option maxHeartbeats 400000 in
theorem crc_any (ao : Option Addr) (n cap : Nat) (xs : List Int) (w : World) (h : Row .u8 w ao n cap xs) (hb : Bytes xs) (ht : Tab w) :
    Calls Tryd.prog 9 #[.slice ao n cap] w fun e w' => e = .returned (.int .u32 ((Sums.crc xs : Nat) : Int)) ∧ w = w' := by
  have HC := hide (more_any 0 ao n cap xs w (by omega) h hb ht)
  rw [← Sums.crc_more] at HC
  clear h hb ht
  go_enter Tryd.func9, Tryd.ntmps9
  go_wp2_with (go_at_call 16; refine HC.out.mono ?_; rintro e w' ⟨rfl, rfl⟩)
  go_ret
  exact ⟨rfl, rfl⟩
theorem names_any (w : World) : Calls Tryd.prog 8 #[] w fun e w' => e = .returned (.bool true) ∧ w = w' := by
  go_enter Tryd.func8, Tryd.ntmps8
  go_wp2
  go_ret
  exact ⟨rfl, rfl⟩
set_option maxHeartbeats 400000 in
theorem bytes_any (c0 c1 c2 c3 : Int) (ao : Option Addr) (n cap : Nat) (xs : List Int) (w : World) (hf : Sums.four (Sums.crc xs) = [c0, c1, c2, c3]) (h : Row .u8 w ao n cap xs) (hb : Bytes xs) (ht : Tab w) :
    Calls Tryd.prog 17 #[.slice ao n cap] w fun e w' => e = .returned (.agg #[.int .u8 c0, .int .u8 c1, .int .u8 c2, .int .u8 c3]) ∧ Below w.heap.size w w' := by
  have HC := hide (fun o => crc_any ao n cap xs (w.alloc o) (h.below ((Below.refl _ w).alloc (Nat.le_refl _) o)) hb (ht.below ((Below.refl _ w).alloc (Nat.le_refl _) o)))
  have hv := Sums.crc_lt hb
  simp only [Sums.four, List.cons.injEq, and_true] at hf
  obtain ⟨f0, f1, f2, f3⟩ := hf
  have F0 := hide f0
  have F1 := hide f1
  have F2 := hide f2
  have F3 := hide f3
  clear h hb ht f0 f1 f2 f3
  generalize Sums.crc xs = v at *
  go_enter Tryd.func17, Tryd.ntmps17
  go_wp2_with (go_at_call 9; refine (HC.out _).mono ?_; rintro e w' ⟨rfl, rfl⟩)
  have f0 := F0.out
  have f1 := F1.out
  have f2 := F2.out
  have f3 := F3.out
  refine bodyPost_ret (v := .agg #[.int .u8 c0, .int .u8 c1, .int .u8 c2, .int .u8 c3]) (by simp [results, Tryd.results17, go_sem]; omega) rfl ⟨rfl, ?_⟩
  exact (Below.refl _ _).alloc (Nat.le_refl _) _
end Go.Proofs.YthnhpbambkhphaaDoor
