/- The contract of Open. -/
import Derived.Test.YthnhpbambkhphaaDoorSeal
import Derived.Deep.RegionHeld3
import Derived.ChangeKeysEq
namespace Go.Proofs.YthnhpbambkhphaaDoor
open Go.RowKit
set_option linter.unusedVariables false
set_option maxHeartbeats 400000 in
theorem open_short (ao : Option Addr) (n cap : Nat) (xs : List Int) (w : World) (h : Row .u8 w ao n cap xs) (hn : n < 4) :
    Calls Tryd.prog 12 #[.slice ao n cap] w fun e w' => e = .returned (.tuple #[.slice none 0 0, .int .i64 20]) ∧ w = w' := by
  clear h
  go_enter Tryd.func12, Tryd.ntmps12
  go_wp2
  go_ret2
  exact ⟨rfl, rfl⟩
/-- What the test of Open keeps of the world. -/
def KO (w0 w : World) : Prop := Below w0.heap.size w0 w
theorem KO.drew {w0 w : World} (h : KO w0 w) : KO w0 w.drew := Below.drew h
theorem run_tail (b off n cap : Nat) (hn : 4 ≤ n) (h : n ≤ cap) (w : World) :
    (Instr.slice 22 (.slice (some ⟨b, off, none⟩) n cap) (some (.int .i64 ((n : Int) - 4))) none none).run Tryd.prog w = .ok (.slice (some ⟨b, off + (n - 4), none⟩) 4 (cap - (n - 4))) w := by
  have e3 : ((n : Int) - 4).toNat = n - 4 := by omega
  have e4 : (4 : Int) ≤ (n : Int) := by omega
  have e5 : (n : Int) - 4 ≤ (n : Int) := by omega
  simp [Instr.slice, run_underlying Tryd.underlying22, Instr.sliceBounds, go_sem, e3, e4, e5]
  exact ⟨fun h => by omega, by omega⟩
theorem run_arr (b off c : Nat) (w : World) : (Instr.arrayAt 37 (.slice (some ⟨b, off, none⟩) 4 c)).run Tryd.prog w = .ok (.pointer (some ⟨b, off, none⟩)) w := by
  simp [Instr.arrayAt, run_underlying Tryd.underlying37, go_sem]
theorem cells5 : Tryd.prog.cellsOf 5 = 1 := by kernel_rfl
theorem plain5 : Tryd.prog.plainKey 5 = true := by kernel_rfl
theorem items_step (w : World) (d i : Nat) (xs ys : Array Value) (a b : Int) (is : List Nat) (ha : xs[i]? = some (.int .u8 a)) (hb : ys[i]? = some (.int .u8 b)) :
    (Op.eqItems (d + 1) 5 1 xs ys (i :: is)).run Tryd.prog w = if a = b then (Op.eqItems (d + 1) 5 1 xs ys is).run Tryd.prog w else .ok false w := by
  simp only [Op.eqItems, Sem.run_bind, Nat.mul_one, run_part_plain w plain5 ha, run_part_plain w plain5 hb, Result.andThen_ok, run_equalIn_int w _ 5 .u8 .u8 _ _ Tryd.underlying5]
  by_cases h : a = b
  · simp [h]
  · simp [h]
theorem run_eq4 (a0 a1 a2 a3 b0 b1 b2 b3 : Int) (w : World) :
    (Op.equalIn 10000 37 (.agg #[.int .u8 a0, .int .u8 a1, .int .u8 a2, .int .u8 a3]) (.agg #[.int .u8 b0, .int .u8 b1, .int .u8 b2, .int .u8 b3])).run Tryd.prog w = .ok ([a0, a1, a2, a3] == [b0, b1, b2, b3]) w := by
  obtain ⟨i5, hi, _⟩ := info_parts info5
  rw [run_equalIn_array w 9999 _ _ Tryd.underlying37 hi, cells5, show List.range 4 = [0, 1, 2, 3] from rfl]
  rw [items_step w 9998 0 _ _ a0 b0 _ (by simp) (by simp), items_step w 9998 1 _ _ a1 b1 _ (by simp) (by simp), items_step w 9998 2 _ _ a2 b2 _ (by simp) (by simp), items_step w 9998 3 _ _ a3 b3 _ (by simp) (by simp)]
  by_cases h0 : a0 = b0 <;> by_cases h1 : a1 = b1 <;> by_cases h2 : a2 = b2 <;> by_cases h3 : a3 = b3 <;> simp [h0, h1, h2, h3, Op.eqItems]
set_option maxHeartbeats 2000000 in
theorem open_no (b off n cap : Nat) (xs : List Int) (w : World) (c0 c1 c2 c3 d0 d1 d2 d3 : Int) (h : Row .u8 w (some ⟨b, off, none⟩) n cap xs) (hb : Bytes xs) (ht : Tab w) (hn : 4 ≤ n)
    (hf : Sums.four (Sums.crc (xs.take (n - 4))) = [c0, c1, c2, c3]) (hd : xs.drop (n - 4) = [d0, d1, d2, d3]) (hne : ([d0, d1, d2, d3] == [c0, c1, c2, c3]) = false) :
    Calls Tryd.prog 12 #[.slice (some ⟨b, off, none⟩) n cap] w fun e w' => e = .returned (.tuple #[.slice none 0 0, .int .i64 21]) ∧ Below w.heap.size w w' := by
  have hmx := h.max
  have hle := h.le
  unfold maxLen at hmx
  have hsl := fun w' => run_tail b off n cap hn hle w'
  have har := fun w' => run_arr b (off + (n - 4)) (cap - (n - 4)) w'
  obtain ⟨hbl, hcl⟩ : b < w.heap.size ∧ Cells .u8 w b (off + (n - 4)) [d0, d1, d2, d3] := by
    obtain ⟨b', off', e, hb, hc⟩ := h.cells (by omega)
    simp at e
    obtain ⟨rfl, rfl⟩ := e
    exact ⟨hb, by rw [← hd]; exact hc.drop (n - 4)⟩
  have g0 : ∀ w', KO w w' → w'.cell? ⟨b, off + (n - 4), none⟩ = some (.int .u8 d0) := fun w' hk => (Below.cell hk (by exact hbl)).trans (hcl 0 (by simp))
  have g1 : ∀ w', KO w w' → w'.cell? ⟨b, off + (n - 4) + 1, none⟩ = some (.int .u8 d1) := fun w' hk => (Below.cell hk (by exact hbl)).trans (hcl 1 (by simp))
  have g2 : ∀ w', KO w w' → w'.cell? ⟨b, off + (n - 4) + 2, none⟩ = some (.int .u8 d2) := fun w' hk => (Below.cell hk (by exact hbl)).trans (hcl 2 (by simp))
  have g3 : ∀ w', KO w w' → w'.cell? ⟨b, off + (n - 4) + 3, none⟩ = some (.int .u8 d3) := fun w' hk => (Below.cell hk (by exact hbl)).trans (hcl 3 (by simp))
  have HS := hide (fun w' (hk : KO w w') => bytes_any c0 c1 c2 c3 (some ⟨b, off, none⟩) (n - 4) cap (xs.take (n - 4)) w' hf ((h.below hk).take (by omega)) (hb.take (n - 4)) (ht.below hk))
  have hK : KO w w := Below.refl _ _
  have heq := fun w' => run_eq4 d0 d1 d2 d3 c0 c1 c2 c3 w'
  rw [hne] at heq
  clear h hb ht hf hd hbl hcl
  go_enter Tryd.func12, Tryd.ntmps12
  go_wp2_with fail
  refine wp_region_noPanic ?_
  go_region_held (fun w' => KO w w') (first | exact KO.drew hK | assumption)
    (first | (go_at_call 17; refine (HS.out _ (by assumption)).mono ?_; rintro e w' ⟨rfl, hb2⟩; have hk2 : KO w w' := Below.trans (by assumption) (hb2.mono (by have : KO w _ := (by assumption); exact this.size))))
  all_goals
    refine NoPanic.normal ?_
    have HB := hide hk2
    clear hK hb2 g0 g1 g2 g3 hsl har heq
    go_wp2
    go_ret2
    exact ⟨rfl, HB.out⟩
set_option maxHeartbeats 2000000 in
theorem open_yes (b off n cap : Nat) (xs : List Int) (w : World) (c0 c1 c2 c3 d0 d1 d2 d3 : Int) (h : Row .u8 w (some ⟨b, off, none⟩) n cap xs) (hb : Bytes xs) (ht : Tab w) (hn : 4 ≤ n) (hsz : n ≤ 140737488351248)
    (hf : Sums.four (Sums.crc (xs.take (n - 4))) = [c0, c1, c2, c3]) (hd : xs.drop (n - 4) = [d0, d1, d2, d3]) (hne : ([d0, d1, d2, d3] == [c0, c1, c2, c3]) = true) :
    Calls Tryd.prog 12 #[.slice (some ⟨b, off, none⟩) n cap] w fun e w' => ∃ v, e = .returned (.tuple #[v, .int .i64 0]) ∧ w'.ownsRow w.heap.size 5 1 v (n - 4) ((xs.take (n - 4)).map (Value.int .u8)) ∧ Below w.heap.size w w' := by
  have hmx := h.max
  have hle := h.le
  unfold maxLen at hmx
  have hsl := fun w' => run_tail b off n cap hn hle w'
  have har := fun w' => run_arr b (off + (n - 4)) (cap - (n - 4)) w'
  obtain ⟨hbl, hcl⟩ : b < w.heap.size ∧ Cells .u8 w b (off + (n - 4)) [d0, d1, d2, d3] := by
    obtain ⟨b', off', e, hb, hc⟩ := h.cells (by omega)
    simp at e
    obtain ⟨rfl, rfl⟩ := e
    exact ⟨hb, by rw [← hd]; exact hc.drop (n - 4)⟩
  have g0 : ∀ w', KO w w' → w'.cell? ⟨b, off + (n - 4), none⟩ = some (.int .u8 d0) := fun w' hk => (Below.cell hk (by exact hbl)).trans (hcl 0 (by simp))
  have g1 : ∀ w', KO w w' → w'.cell? ⟨b, off + (n - 4) + 1, none⟩ = some (.int .u8 d1) := fun w' hk => (Below.cell hk (by exact hbl)).trans (hcl 1 (by simp))
  have g2 : ∀ w', KO w w' → w'.cell? ⟨b, off + (n - 4) + 2, none⟩ = some (.int .u8 d2) := fun w' hk => (Below.cell hk (by exact hbl)).trans (hcl 2 (by simp))
  have g3 : ∀ w', KO w w' → w'.cell? ⟨b, off + (n - 4) + 3, none⟩ = some (.int .u8 d3) := fun w' hk => (Below.cell hk (by exact hbl)).trans (hcl 3 (by simp))
  have HS := hide (fun w' (hk : KO w w') => bytes_any c0 c1 c2 c3 (some ⟨b, off, none⟩) (n - 4) cap (xs.take (n - 4)) w' hf ((h.below hk).take (by omega)) (hb.take (n - 4)) (ht.below hk))
  have hK : KO w w := Below.refl _ _
  have heq := fun w' => run_eq4 d0 d1 d2 d3 c0 c1 c2 c3 w'
  rw [hne] at heq
  have HR := hide (fun w' (hk : KO w w') => (h.below hk).take (e := n - 4) (by omega))
  obtain ⟨i5, hi, hz0, hz1, hz2⟩ := info_parts info5
  have HI : Hid (Tryd.prog.info? 5 = some i5) := hi
  have HZ0 := hide hz0
  have HZ1 := hide hz1
  have HZ2 := hide hz2
  clear h hb ht hf hd hbl hcl hi hz0 hz1 hz2
  go_enter Tryd.func12, Tryd.ntmps12
  go_wp2_with fail
  refine wp_region_noPanic ?_
  go_region_held (fun w' => KO w w') (first | exact KO.drew hK | assumption)
    (first | (go_at_call 17; refine (HS.out _ (by assumption)).mono ?_; rintro e w' ⟨rfl, hb2⟩; have hk2 : KO w w' := Below.trans (by assumption) (hb2.mono (by have : KO w _ := (by assumption); exact this.size))))
  all_goals
    refine NoPanic.normal ?_
    have HB := hide hk2
    have hs2 : w.heap.size ≤ w'.heap.size := Below.size hk2
    clear hK hb2 g0 g1 g2 g3 hsl har heq
    go_wp2_with (first | (at_make; refine wpList_make_own _ rfl _ _ 22 rfl w.heap.size 5 i5 (.int .u8 0) 1 Tryd.underlying22 HI.out HZ0.out HZ1.out _ _ _ (n - 4) rfl rfl (by omega) ?b2 ?b3 ?b4 ?_))
    case b2 => rw [HZ2.out]; omega
    case b3 => unfold maxLen; omega
    case b4 => exact hs2
    intro w3 hown hgrow
    have HG := hide ((Below.refl w.heap.size w').grown hgrow hs2 (fun _ h => by cases h))
    have HB3 := hide (Below.trans HB.out HG.out)
    have HO := hide hown
    have HR3 := hide (HR.out _ HB3.out)
    clear hown hgrow
    go_wp2_with (first | (at_builtin; refine wpList_append_row _ (by rfl) (.tmp 24) (.tmp 25) 22 rfl w.heap.size 5 i5 (.int .u8 0) 1 Tryd.underlying22 HI.out HZ0.out HZ1.out HZ2.out rfl _ 0 [] rfl HO.out .u8 _ (n - 4) cap _ rfl HR3.out ?c1 (by omega) ?c2 ?_))
    case c1 => omega
    case c2 => exact HB3.out.size
    intro v4 w4 ho4 hb4
    rw [← List.map_take] at ho4
    have HO4 := hide ho4
    have HB4 := hide (HB3.out.trans hb4)
    clear ho4 hb4
    go_wp2
    go_ret2
    exact ⟨_, rfl, HO4.out, HB4.out⟩
theorem list4 {l : List Int} (h : l.length = 4) : ∃ a b c d, l = [a, b, c, d] := by
  match l, h with
  | [a, b, c, d], _ => exact ⟨a, b, c, d, rfl⟩
/-- The last four are the sum of those ahead. -/
def good (xs : List Int) : Prop := xs.drop (xs.length - 4) = Sums.four (Sums.crc (xs.take (xs.length - 4)))
theorem good_split {xs : List Int} (h : good xs) : Sums.sealed (xs.take (xs.length - 4)) = xs := by
  unfold Sums.sealed
  rw [← h, List.take_append_drop]
theorem good_sealed (ys : List Int) : good (Sums.sealed ys) ∧ (Sums.sealed ys).take ((Sums.sealed ys).length - 4) = ys := by
  have e : (Sums.sealed ys).length - 4 = ys.length := by rw [Sums.sealed_len]; omega
  have e2 : (Sums.sealed ys).take ys.length = ys := by unfold Sums.sealed; simp
  unfold good
  rw [e, e2]
  exact ⟨by unfold Sums.sealed; simp, rfl⟩
theorem open_good (ao : Option Addr) (n cap : Nat) (xs : List Int) (w : World) (h : Row .u8 w ao n cap xs) (hb : Bytes xs) (ht : Tab w) (hn : 4 ≤ n) (hsz : n ≤ 140737488351248) (hg : good xs) :
    Calls Tryd.prog 12 #[.slice ao n cap] w fun e w' => ∃ v, e = .returned (.tuple #[v, .int .i64 0]) ∧ w'.ownsRow w.heap.size 5 1 v (n - 4) ((xs.take (n - 4)).map (Value.int .u8)) ∧ Below w.heap.size w w' := by
  obtain ⟨b, off, rfl, _, _⟩ := h.cells (by omega)
  obtain ⟨c0, c1, c2, c3, hf⟩ := four_ex (Sums.crc (xs.take (n - 4)))
  unfold good at hg
  rw [h.len, hf] at hg
  exact open_yes b off n cap xs w c0 c1 c2 c3 c0 c1 c2 c3 h hb ht hn hsz hf hg (by simp)
theorem open_bad (ao : Option Addr) (n cap : Nat) (xs : List Int) (w : World) (h : Row .u8 w ao n cap xs) (hb : Bytes xs) (ht : Tab w) (hn : 4 ≤ n) (hg : ¬ good xs) :
    Calls Tryd.prog 12 #[.slice ao n cap] w fun e w' => e = .returned (.tuple #[.slice none 0 0, .int .i64 21]) ∧ Below w.heap.size w w' := by
  obtain ⟨b, off, rfl, _, _⟩ := h.cells (by omega)
  obtain ⟨c0, c1, c2, c3, hf⟩ := four_ex (Sums.crc (xs.take (n - 4)))
  obtain ⟨d0, d1, d2, d3, hd⟩ := list4 (l := xs.drop (n - 4)) (by rw [List.length_drop, h.len]; omega)
  unfold good at hg
  rw [h.len, hf, hd] at hg
  exact open_no b off n cap xs w c0 c1 c2 c3 d0 d1 d2 d3 h hb ht hn hf hd (by rw [beq_eq_false_iff_ne]; exact hg)
end Go.Proofs.YthnhpbambkhphaaDoor
