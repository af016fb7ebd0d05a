/- The contract of Seal. -/
import Derived.Test.YthnhpbambkhphaaDoorLeaf
import Derived.Test.YthnhpbambkhphaaDoorCopy
import Derived.Deep.AppendLies
namespace Go.Proofs.YthnhpbambkhphaaDoor
open Go.RowKit
set_option linter.unusedVariables false
theorem info5 : (Tryd.prog.info? 5).map (fun i => (i.zero, i.size, i.bytes)) = some (some (.int .u8 0), 1, 1) := by kernel_rfl
theorem four_ex (v : Nat) : ∃ c0 c1 c2 c3, Sums.four v = [c0, c1, c2, c3] := ⟨_, _, _, _, rfl⟩
set_option maxHeartbeats 1000000 in
theorem seal_any (ao : Option Addr) (n cap : Nat) (xs : List Int) (w : World) (h : Row .u8 w ao n cap xs) (hb : Bytes xs) (ht : Tab w) (hsz : n ≤ 140737488351240) :
    Calls Tryd.prog 11 #[.slice ao n cap] w fun e w' => ∃ v, e = .returned v ∧ w'.ownsRow w.heap.size 5 1 v (n + 4) ((Sums.sealed xs).map (Value.int .u8)) ∧ Below w.heap.size w w' := by
  obtain ⟨i5, hi, hz0, hz1, hz2⟩ := info_parts info5
  have HI : Hid (Tryd.prog.info? 5 = some i5) := hi
  have HZ0 := hide hz0
  have HZ1 := hide hz1
  have HZ2 := hide hz2
  obtain ⟨c0, c1, c2, c3, hf⟩ := four_ex (Sums.crc xs)
  have HF := hide hf
  have HB := hide (bytes_any c0 c1 c2 c3 ao n cap xs w hf h hb ht)
  have HR := hide h
  have hmx := h.max
  have hle := h.le
  unfold maxLen at hmx
  clear hi hz0 hz1 hz2 hf h hb ht
  go_enter Tryd.func11, Tryd.ntmps11
  go_wp2_with fail
  refine HB.out.mono ?_
  rintro e w1 ⟨rfl, hb1⟩
  have hs1 := hb1.size
  have HA := hide (row_lit .u8 w1 [c0, c1, c2, c3] 37 (by unfold maxLen; simp))
  have HB1 := hide (hb1.alloc hs1 (.cells #[.int .u8 c0, .int .u8 c1, .int .u8 c2, .int .u8 c3] 37))
  clear hb1 HB
  go_wp2_with (first | (at_make; refine wpList_make_own _ rfl _ _ 22 rfl (w1.heap.size + 1) 5 i5 (.int .u8 0) 1 Tryd.underlying22 HI.out HZ0.out HZ1.out _ _ _ (n + 4) rfl rfl rfl ?b2 ?b3 ?b4 ?_))
  case b2 => rw [HZ2.out]; omega
  case b3 => unfold maxLen; omega
  case b4 => simp
  intro w2 hown hgrow
  have HG2 := hide ((Below.refl (w1.heap.size + 1) (w1.alloc (.cells #[.int .u8 c0, .int .u8 c1, .int .u8 c2, .int .u8 c3] 37))).grown hgrow (by simp) (fun _ h => by cases h))
  have HB2 := hide (HB1.out.trans (HG2.out.mono (by omega)))
  have hs2 : w1.heap.size + 1 ≤ w2.heap.size := by have := HG2.out.size; simpa using this
  have HO := hide hown
  clear hown hgrow
  have HR2 := hide (HR.out.below HB2.out)
  go_wp2_with (first | (at_builtin; refine wpList_append_row _ (by rfl) (.tmp 11) (.tmp 12) 22 rfl (w1.heap.size + 1) 5 i5 (.int .u8 0) 1 Tryd.underlying22 HI.out HZ0.out HZ1.out HZ2.out rfl _ 0 [] rfl HO.out .u8 ao n cap xs rfl HR2.out ?c1 (by omega) ?c2 ?_))
  case c1 => omega
  case c2 => exact hs2
  intro v3 w3 ho3 hb3
  have HG3 := hide (HG2.out.trans hb3)
  have HB3 := hide (HB2.out.trans (hb3.mono (by omega)))
  have hs3 := hb3.size
  have HO3 := hide ho3
  have HA3 := hide (HA.out.below (HG3.out.mono (by simp)))
  clear ho3 hb3
  go_wp2_with (first | (at_builtin; refine wpList_append_row _ (by rfl) (.tmp 14) (.tmp 15) 22 rfl (w1.heap.size + 1) 5 i5 (.int .u8 0) 1 Tryd.underlying22 HI.out HZ0.out HZ1.out HZ2.out rfl _ _ _ rfl HO3.out .u8 _ 4 4 [c0, c1, c2, c3] rfl HA3.out ?d1 (by omega) ?d2 ?_))
  case d1 => omega
  case d2 => omega
  intro v4 w4 ho4 hb4
  have e4 : List.map (Value.int .u8) xs ++ [.int .u8 c0, .int .u8 c1, .int .u8 c2, .int .u8 c3] = (Sums.sealed xs).map (Value.int .u8) := by
    unfold Sums.sealed
    rw [HF.out, List.map_append]
    rfl
  rw [e4] at ho4
  have HO4 := hide (owns_mono ho4 (by omega : w.heap.size ≤ w1.heap.size + 1))
  have HB4 := hide (HB3.out.trans (hb4.mono (by omega)))
  clear ho4 hb4
  go_wp2
  go_ret
  exact ⟨_, rfl, HO4.out, HB4.out⟩
end Go.Proofs.YthnhpbambkhphaaDoor
