/- The document's own brackets and mirror images (colophonref03): contracts; the walk of UcdMarks. -/
import Derived.Test.YtchpdokjalbpnaaDoorMirr
import Derived.Test.YtchpdokjalbpnaaDoorCopy
import Derived.WalkKit
import Derived.WalkSpells
import Derived.WalkLawsBesides
import Derived.Outline
import Derived.Great.BuildSlice
import Derived.Deep.QuietTactic
import Derived.BigQuiet
namespace Go.Proofs.YtchpdokjalbpnaaDoor
open Go.RowKit Go.Maps
set_option linter.unusedVariables false
set_option maxHeartbeats 1000000
set_option maxRecDepth 100000
theorem belowN {B n : Nat} {w w' : World} (h : Below B w w') : Below B w (w'.drewN n) := ⟨h.os, h.tape, h.output, h.size, h.block⟩
theorem info21 : (Tryd.prog.info? 21).map (fun i => (i.zero, i.size, i.bytes)) = some (some (.int .i32 0), 1, 4) := by kernel_rfl
theorem owns_new (w : World) (e : TypeId) (k : IntKind) (zs : List Int) (n : Nat) (hn : zs.length = n) (hm : n ≤ maxLen) : (w.alloc (.cells (zs.map (Value.int k)).toArray e)).ownsRow w.heap.size e 1 (.slice (some ⟨w.heap.size, 0, none⟩) n n) n (zs.map (Value.int k)) :=
  ⟨by simp [hn], .inr ⟨w.heap.size, n, _, rfl, Nat.le_refl _, heap_alloc_last w _, Nat.le_refl _, hm, by simp [hn], by rw [Nat.mul_one]; exact List.take_of_length_le (by simp [hn])⟩⟩
theorem results_slot {P : Program} {fn : Func} (h : fn.results = #[.tmp 0]) {tmps : Array Value} {w : World} {v : Value} (ht : tmps.getD 0 undef = v) : (results fn tmps).run P w = .ok v w := by
  have ht' : tmps[0]?.getD undef = v := by simpa using ht
  simp [results, h, ht']
theorem rbr_any (w : World) : Calls Tryd.prog 28 #[] w fun e w' => ∃ v, e = .returned v ∧ Below w.heap.size w w' ∧ w'.ownsRow w.heap.size 21 1 v 42 (Ucd.br.map (Value.int .i32)) := by
  refine calls_bare 2 Tryd.func28 rfl Tryd.ntmps28 fun a hs hdf => ?_
  refine wp_seq ?_
  refine wp_region_list ?_
  refine wpList_run rfl (some 0) rfl (.slice none 0 0) w ?_ ?_
  · simp [execOp, go_sem]
  refine wpList_nil ?_
  refine wp_seq ?_
  refine wp_region_list ?_
  refine wpList_buildFlatAt rfl 25 21 42 _ rfl .i32 Ucd.br w.heap.size rfl (some 1) rfl Tryd.underlying25 (by kernel_rfl) (by kernel_rfl) (by kernel_rfl) (by decide) (by decide) (by kernel_rfl) ?_
  refine wpList_run rfl (some 0) rfl (.slice (some ⟨w.heap.size, 0, none⟩) 42 42) (w.alloc (.cells (Ucd.br.map (Value.int .i32)).toArray 21)) ?_ ?_
  · have z := put_same (a.put (some 0) (.slice none 0 0)) 1 (.slice (some ⟨w.heap.size, 0, none⟩) 42 42) (by rw [put_size]; omega)
    unfold execOp
    simp only [Act.eval, z]
    rfl
  refine wpList_nil ?_
  refine wp_ret ?_
  have z := put_same ((a.put (some 0) (.slice none 0 0)).put (some 1) (.slice (some ⟨w.heap.size, 0, none⟩) 42 42)) 0 (.slice (some ⟨w.heap.size, 0, none⟩) 42 42) (by rw [put_size, put_size]; omega)
  refine bodyPost_ret (v := .slice (some ⟨w.heap.size, 0, none⟩) 42 42) ?_ hdf ⟨_, rfl, (Below.refl _ _).alloc (Nat.le_refl _) _, owns_new w _ .i32 Ucd.br 42 (by kernel_rfl) (by unfold maxLen; omega)⟩
  exact results_slot Tryd.results28 z
theorem rot_any (w : World) : Calls Tryd.prog 29 #[] w fun e w' => ∃ v, e = .returned v ∧ Below w.heap.size w w' ∧ w'.ownsRow w.heap.size 21 1 v 20 (Ucd.ot.map (Value.int .i32)) := by
  refine calls_bare 2 Tryd.func29 rfl Tryd.ntmps29 fun a hs hdf => ?_
  refine wp_seq ?_
  refine wp_region_list ?_
  refine wpList_run rfl (some 0) rfl (.slice none 0 0) w ?_ ?_
  · simp [execOp, go_sem]
  refine wpList_nil ?_
  refine wp_seq ?_
  refine wp_region_list ?_
  refine wpList_buildFlatAt rfl 25 21 20 _ rfl .i32 Ucd.ot w.heap.size rfl (some 1) rfl Tryd.underlying25 (by kernel_rfl) (by kernel_rfl) (by kernel_rfl) (by decide) (by decide) (by kernel_rfl) ?_
  refine wpList_run rfl (some 0) rfl (.slice (some ⟨w.heap.size, 0, none⟩) 20 20) (w.alloc (.cells (Ucd.ot.map (Value.int .i32)).toArray 21)) ?_ ?_
  · have z := put_same (a.put (some 0) (.slice none 0 0)) 1 (.slice (some ⟨w.heap.size, 0, none⟩) 20 20) (by rw [put_size]; omega)
    unfold execOp
    simp only [Act.eval, z]
    rfl
  refine wpList_nil ?_
  refine wp_ret ?_
  have z := put_same ((a.put (some 0) (.slice none 0 0)).put (some 1) (.slice (some ⟨w.heap.size, 0, none⟩) 20 20)) 0 (.slice (some ⟨w.heap.size, 0, none⟩) 20 20) (by rw [put_size, put_size]; omega)
  refine bodyPost_ret (v := .slice (some ⟨w.heap.size, 0, none⟩) 20 20) ?_ hdf ⟨_, rfl, (Below.refl _ _).alloc (Nat.le_refl _) _, owns_new w _ .i32 Ucd.ot 20 (by kernel_rfl) (by unfold maxLen; omega)⟩
  exact results_slot Tryd.results29 z
theorem part_at (l : List Int) (r : Int) (i : Nat) (hi : i < l.length) (h : ∀ j, j < i → ¬ l.getD j 0 = r) (he : l.getD i 0 = r) : Ucd.part l r = ((i : Int), if i % 2 = 0 then l.getD (i + 1) 0 else l.getD (i - 1) 0) := by
  unfold Ucd.part
  have : l.findIdx? (· == r) = some i := by
    rw [List.findIdx?_eq_some_iff_getElem]
    refine ⟨hi, ?_, fun j hj => ?_⟩
    · have e : l.getD i 0 = l[i] := by simp [List.getD, List.getElem?_eq_getElem hi]
      rw [e] at he
      simp [he]
    · have e : l.getD j 0 = l[j] := by simp [List.getD, List.getElem?_eq_getElem (show j < l.length by omega)]
      have := h j hj
      rw [e] at this
      simp [this]
  rw [this]
theorem part_none (l : List Int) (r : Int) (h : ∀ j, j < l.length → ¬ l.getD j 0 = r) : Ucd.part l r = (-1, 0) := by
  refine Ucd.part_not l r fun hm => ?_
  obtain ⟨j, hj, e⟩ := List.getElem_of_mem hm
  exact h j hj (by simp [List.getD, List.getElem?_eq_getElem hj, e])
theorem ret_pair {a b : Int} {s : Int × Int} (h : s = (a, b)) : Ending.returned (.tuple #[.int .i64 a, .int .i32 b]) = .returned (.tuple #[.int .i64 s.1, .int .i32 s.2]) := by rw [h]
theorem dpartner_any (l : List Int) (r : Int) (ao : Option Addr) (n cap : Nat) (w : World) (h : Row .i32 w ao n cap l) (hn : n % 2 = 0) (hs : n ≤ 100) :
    Calls Tryd.prog 27 #[.slice ao n cap, .int .i32 r] w fun e w' => e = .returned (.tuple #[.int .i64 (Ucd.part l r).1, .int .i32 (Ucd.part l r).2]) ∧ Below w.heap.size w w' := by
  have HL := hide h.len
  have hc := h.cells
  have HC := hide hc
  have hle := h.le
  clear h hc
  go_enter Tryd.func27, Tryd.ntmps27
  go_wp2_with fail
  go_loop [6] (fun s6 => ∃ i : Nat, s6 = .int .i64 i ∧ i ≤ n ∧ Hid (∀ j, j < i → ¬ l.getD j 0 = r)) (fun s6 => ((n : Int) - intOf s6).toNat)
  case atStart => exact ⟨0, rfl, by omega, hide fun j hj => by omega⟩
  case round =>
    obtain ⟨i, rfl, hi, HI⟩ := hrel
    by_cases hi2 : i < n
    · obtain ⟨b, off, rfl, hb, hcl⟩ := HC.out (by omega)
      have hiI : (i : Int) < (n : Int) := by omega
      have g0 := hcl i (by rw [HL.out]; exact hi2)
      by_cases he : l.getD i 0 = r
      · have HP := hide (part_at l r i (by rw [HL.out]; exact hi2) HI.out he)
        rw [he] at g0
        rcases Nat.mod_two_eq_zero_or_one i with hp | hp
        · have g1 := hcl (i + 1) (by rw [HL.out]; omega)
          rw [if_pos hp] at HP
          have hi1 : (i : Int) + 1 < (n : Int) := by omega
          have ht : (i : Int).tmod 2 = 0 := by rw [Int.tmod_eq_emod_of_nonneg (by omega)]; omega
          generalize l.getD (i + 1) 0 = z at *
          clear hcl
          go_wp2_with fail
          go_quiet (fail)
          go_wp2
          go_ret2
          exact ⟨ret_pair HP.out, belowN (Below.refl _ _)⟩
        · obtain ⟨m, rfl⟩ : ∃ m, i = m + 1 := ⟨i - 1, by omega⟩
          have g1 := hcl m (by rw [HL.out]; omega)
          rw [if_neg (by omega), show m + 1 - 1 = m from by omega] at HP
          have ht : ((m : Int) + 1).tmod 2 = 1 := by rw [Int.tmod_eq_emod_of_nonneg (by omega)]; omega
          have hm1 : (m : Int) < (n : Int) := by omega
          generalize l.getD m 0 = z at *
          clear hcl
          go_wp2_with fail
          go_quiet (fail)
          go_wp2
          go_ret2
          exact ⟨ret_pair (by rw [HP.out]; simp), belowN (Below.refl _ _)⟩
      · have HX : Hid (∀ j, j < i + 1 → ¬ l.getD j 0 = r) := hide fun j hj => by
          rcases Nat.lt_succ_iff_lt_or_eq.1 hj with h | h
          · exact HI.out j h
          · rw [h]; exact he
        generalize l.getD i 0 = y at *
        clear hcl
        go_wp2
        go_round
        case rel => exact ⟨i + 1, by congr 1, by omega, HX⟩
        case measure => simp [intOf]; omega
    · obtain rfl : i = n := by omega
      have HP := hide (part_none l r (fun j hj => HI.out j (by rw [← HL.out]; exact hj)))
      go_wp2
      go_ret2
      exact ⟨ret_pair HP.out, Below.refl _ _⟩
theorem br_len : Ucd.br.length = 42 ∧ Ucd.ot.length = 20 := by decide +kernel
theorem part_lt (l : List Int) (r : Int) : -1 ≤ (Ucd.part l r).1 ∧ (Ucd.part l r).1 < l.length + 1 := by
  unfold Ucd.part
  cases h : l.findIdx? (· == r) with
  | none => simp; omega
  | some i =>
    obtain ⟨hi, _⟩ := List.findIdx?_eq_some_iff_getElem.1 h
    simp
    omega
theorem rmirror_any (r : Int) (w : World) : Calls Tryd.prog 18 #[.int .i32 r] w fun e w' => e = .returned (.tuple #[.int .i32 (Ucd.mir r).1, .bool (Ucd.mir r).2]) ∧ Below w.heap.size w w' := by
  have HE := hide (Ucd.rmir_eq r)
  obtain ⟨i21, hi, hz0, hz1, hz2⟩ := info_parts info21
  have HI : Hid (Tryd.prog.info? 21 = some i21) := hi
  have HZ0 := hide hz0
  have HZ1 := hide hz1
  have HZ2 := hide hz2
  clear hi hz0 hz1 hz2
  go_enter Tryd.func18, Tryd.ntmps18
  go_wp2_with fail
  refine (rbr_any w).mono ?_
  rintro e w1 ⟨v, rfl, hb1, hown⟩
  have HO := hide hown
  clear hown
  go_wp2_with fail
  refine (rot_any w1).mono ?_
  rintro e w2 ⟨v2, rfl, hb2, hown2⟩
  obtain ⟨ao2, cap2, rfl, hrow2⟩ := row_of_owns hown2
  have HR2 := hide hrow2
  have HO2 := hide (owns_below HO.out hb2)
  have HB := hide (hb1.trans (hb2.mono hb1.size))
  clear hrow2 hown2 hb1 hb2
  go_wp2_with (at_builtin; refine wpList_append_row _ (by rfl) (.tmp 7) (.tmp 8) 25 rfl w.heap.size 21 i21 (.int .i32 0) 4 Tryd.underlying25 HI.out HZ0.out HZ1.out HZ2.out rfl _ 42 _ rfl HO2.out .i32 ao2 20 cap2 Ucd.ot rfl HR2.out ?c1 (by omega) ?c2 ?_)
  case c1 => omega
  case c2 => exact HB.out.size
  intro v3 w3 ho3 hb3
  rw [← List.map_append] at ho3
  obtain ⟨ao3, cap3, rfl, hrow3⟩ := row_of_owns ho3
  have HR3 := hide hrow3
  have HB3 := hide (HB.out.trans hb3)
  clear ho3 hb3 hrow3 HB HO HO2 HR2
  go_wp2_with fail
  refine (dpartner_any (Ucd.br ++ Ucd.ot) r ao3 62 cap3 w3 HR3.out (by omega) (by omega)).mono ?_
  rintro e w4 ⟨rfl, hb4⟩
  have HB4 := hide (HB3.out.trans (hb4.mono HB3.out.size))
  have HS : Hid (Ucd.mir r = ((Ucd.part (Ucd.br ++ Ucd.ot) r).2, decide (0 ≤ (Ucd.part (Ucd.br ++ Ucd.ot) r).1))) := hide HE.out.symm
  clear hb4 HE
  generalize (Ucd.part (Ucd.br ++ Ucd.ot) r).1 = k at *
  generalize (Ucd.part (Ucd.br ++ Ucd.ot) r).2 = z at *
  go_wp2
  go_ret2
  exact ⟨ret_rune_bool HS.out, HB4.out⟩
end Go.Proofs.YtchpdokjalbpnaaDoor
