/- The document's own brackets and mirror images (colophonref03): contracts; the walk of UcdMarks. -/
import Derived.Test.YtkkmifpdhcdkpaaDoorMirr
import Derived.Test.YtkkmifpdhcdkpaaDoorCopy
import Derived.WalkKit
import Derived.WalkSpells
import Derived.WalkLawsBesides
import Derived.Outline
import Derived.Great.BuildSlice
import Derived.Deep.QuietTactic
import Derived.BigQuiet
namespace Go.Proofs.YtkkmifpdhcdkpaaDoor
open Go.RowKit Go.Maps
set_option linter.unusedVariables false
set_option maxHeartbeats 1000000
set_option maxRecDepth 100000
theorem belowN {B n : Nat} {w w' : World} (h : Below B w w') : Below B w (w'.drewN n) := ⟨h.os, h.tape, h.output, h.size, h.block⟩
theorem info21 : (Tryd.prog.info? 21).map (fun i => (i.zero, i.size, i.bytes)) = some (some (.int .i32 0), 1, 4) := by kernel_rfl
theorem owns_new (w : World) (e : TypeId) (k : IntKind) (zs : List Int) (n : Nat) (hn : zs.length = n) (hm : n ≤ maxLen) : (w.alloc (.cells (zs.map (Value.int k)).toArray e)).ownsRow w.heap.size e 1 (.slice (some ⟨w.heap.size, 0, none⟩) n n) n (zs.map (Value.int k)) :=
  ⟨by simp [hn], .inr ⟨w.heap.size, n, _, rfl, Nat.le_refl _, heap_alloc_last w _, Nat.le_refl _, hm, by simp [hn], by rw [Nat.mul_one]; exact List.take_of_length_le (by simp [hn])⟩⟩
theorem results_slot {P : Program} {fn : Func} (h : fn.results = #[.tmp 0]) {tmps : Array Value} {w : World} {v : Value} (ht : tmps.getD 0 undef = v) : (results fn tmps).run P w = .ok v w := by
  have ht' : tmps[0]?.getD undef = v := by simpa using ht
  simp [results, h, ht']
theorem rbr_any (w : World) : Calls Tryd.prog 59 #[] w fun e w' => ∃ v, e = .returned v ∧ Below w.heap.size w w' ∧ w'.ownsRow w.heap.size 21 1 v 42 (Ucd.br.map (Value.int .i32)) := by
  refine calls_bare 2 Tryd.func59 rfl Tryd.ntmps59 fun a hs hdf => ?_
  refine wp_seq ?_
  refine wp_region_list ?_
  refine wpList_run rfl (some 0) rfl (.slice none 0 0) w ?_ ?_
  · simp [execOp, go_sem]
  refine wpList_nil ?_
  refine wp_seq ?_
  refine wp_region_list ?_
  refine wpList_buildFlatAt rfl 22 21 42 _ rfl .i32 Ucd.br w.heap.size rfl (some 1) rfl Tryd.underlying22 (by kernel_rfl) (by kernel_rfl) (by kernel_rfl) (by decide) (by decide) (by kernel_rfl) ?_
  refine wpList_run rfl (some 0) rfl (.slice (some ⟨w.heap.size, 0, none⟩) 42 42) (w.alloc (.cells (Ucd.br.map (Value.int .i32)).toArray 21)) ?_ ?_
  · have z := put_same (a.put (some 0) (.slice none 0 0)) 1 (.slice (some ⟨w.heap.size, 0, none⟩) 42 42) (by rw [put_size]; omega)
    unfold execOp
    simp only [Act.eval, z]
    rfl
  refine wpList_nil ?_
  refine wp_ret ?_
  have z := put_same ((a.put (some 0) (.slice none 0 0)).put (some 1) (.slice (some ⟨w.heap.size, 0, none⟩) 42 42)) 0 (.slice (some ⟨w.heap.size, 0, none⟩) 42 42) (by rw [put_size, put_size]; omega)
  refine bodyPost_ret (v := .slice (some ⟨w.heap.size, 0, none⟩) 42 42) ?_ hdf ⟨_, rfl, (Below.refl _ _).alloc (Nat.le_refl _) _, owns_new w _ .i32 Ucd.br 42 (by kernel_rfl) (by unfold maxLen; omega)⟩
  exact results_slot Tryd.results59 z
theorem part_at (l : List Int) (r : Int) (i : Nat) (hi : i < l.length) (h : ∀ j, j < i → ¬ l.getD j 0 = r) (he : l.getD i 0 = r) : Ucd.part l r = ((i : Int), if i % 2 = 0 then l.getD (i + 1) 0 else l.getD (i - 1) 0) := by
  unfold Ucd.part
  have : l.findIdx? (· == r) = some i := by
    rw [List.findIdx?_eq_some_iff_getElem]
    refine ⟨hi, ?_, fun j hj => ?_⟩
    · have e : l.getD i 0 = l[i] := by simp [List.getD, List.getElem?_eq_getElem hi]
      rw [e] at he
      simp [he]
    · have e : l.getD j 0 = l[j] := by simp [List.getD, List.getElem?_eq_getElem (show j < l.length by omega)]
      have := h j hj
      rw [e] at this
      simp [this]
  rw [this]
theorem part_none (l : List Int) (r : Int) (h : ∀ j, j < l.length → ¬ l.getD j 0 = r) : Ucd.part l r = (-1, 0) := by
  refine Ucd.part_not l r fun hm => ?_
  obtain ⟨j, hj, e⟩ := List.getElem_of_mem hm
  exact h j hj (by simp [List.getD, List.getElem?_eq_getElem hj, e])
theorem ret_pair {a b : Int} {s : Int × Int} (h : s = (a, b)) : Ending.returned (.tuple #[.int .i64 a, .int .i32 b]) = .returned (.tuple #[.int .i64 s.1, .int .i32 s.2]) := by rw [h]
theorem partner_any (l : List Int) (r : Int) (ao : Option Addr) (n cap : Nat) (w : World) (h : Row .i32 w ao n cap l) (hn : n % 2 = 0) (hs : n ≤ 100) :
    Calls Tryd.prog 58 #[.slice ao n cap, .int .i32 r] w fun e w' => e = .returned (.tuple #[.int .i64 (Ucd.part l r).1, .int .i32 (Ucd.part l r).2]) ∧ Below w.heap.size w w' := by
  have HL := hide h.len
  have hc := h.cells
  have HC := hide hc
  have hle := h.le
  clear h hc
  go_enter Tryd.func58, Tryd.ntmps58
  go_wp2_with fail
  go_loop [6] (fun s6 => ∃ i : Nat, s6 = .int .i64 i ∧ i ≤ n ∧ Hid (∀ j, j < i → ¬ l.getD j 0 = r)) (fun s6 => ((n : Int) - intOf s6).toNat)
  case atStart => exact ⟨0, rfl, by omega, hide fun j hj => by omega⟩
  case round =>
    obtain ⟨i, rfl, hi, HI⟩ := hrel
    by_cases hi2 : i < n
    · obtain ⟨b, off, rfl, hb, hcl⟩ := HC.out (by omega)
      have hiI : (i : Int) < (n : Int) := by omega
      have g0 := hcl i (by rw [HL.out]; exact hi2)
      by_cases he : l.getD i 0 = r
      · have HP := hide (part_at l r i (by rw [HL.out]; exact hi2) HI.out he)
        rw [he] at g0
        rcases Nat.mod_two_eq_zero_or_one i with hp | hp
        · have g1 := hcl (i + 1) (by rw [HL.out]; omega)
          rw [if_pos hp] at HP
          have hi1 : (i : Int) + 1 < (n : Int) := by omega
          have ht : (i : Int).tmod 2 = 0 := by rw [Int.tmod_eq_emod_of_nonneg (by omega)]; omega
          generalize l.getD (i + 1) 0 = z at *
          clear hcl
          go_wp2_with fail
          go_quiet (fail)
          go_wp2
          go_ret2
          exact ⟨ret_pair HP.out, belowN (Below.refl _ _)⟩
        · obtain ⟨m, rfl⟩ : ∃ m, i = m + 1 := ⟨i - 1, by omega⟩
          have g1 := hcl m (by rw [HL.out]; omega)
          rw [if_neg (by omega), show m + 1 - 1 = m from by omega] at HP
          have ht : ((m : Int) + 1).tmod 2 = 1 := by rw [Int.tmod_eq_emod_of_nonneg (by omega)]; omega
          have hm1 : (m : Int) < (n : Int) := by omega
          generalize l.getD m 0 = z at *
          clear hcl
          go_wp2_with fail
          go_quiet (fail)
          go_wp2
          go_ret2
          exact ⟨ret_pair (by rw [HP.out]; simp), belowN (Below.refl _ _)⟩
      · have HX : Hid (∀ j, j < i + 1 → ¬ l.getD j 0 = r) := hide fun j hj => by
          rcases Nat.lt_succ_iff_lt_or_eq.1 hj with h | h
          · exact HI.out j h
          · rw [h]; exact he
        generalize l.getD i 0 = y at *
        clear hcl
        go_wp2
        go_round
        case rel => exact ⟨i + 1, by congr 1, by omega, HX⟩
        case measure => simp [intOf]; omega
    · obtain rfl : i = n := by omega
      have HP := hide (part_none l r (fun j hj => HI.out j (by rw [← HL.out]; exact hj)))
      go_wp2
      go_ret2
      exact ⟨ret_pair HP.out, Below.refl _ _⟩
theorem br_len : Ucd.br.length = 42 ∧ Ucd.ot.length = 20 := by decide +kernel
theorem part_lt (l : List Int) (r : Int) : -1 ≤ (Ucd.part l r).1 ∧ (Ucd.part l r).1 < l.length + 1 := by
  unfold Ucd.part
  cases h : l.findIdx? (· == r) with
  | none => simp; omega
  | some i =>
    obtain ⟨hi, _⟩ := List.findIdx?_eq_some_iff_getElem.1 h
    simp
    omega
theorem rbracket_any (r : Int) (w : World) : Calls Tryd.prog 37 #[.int .i32 r] w fun e w' => e = .returned (.tuple #[.int .i64 (Ucd.side r).1, .int .i32 (Ucd.side r).2]) ∧ Below w.heap.size w w' := by
  have hp := part_lt Ucd.br r
  rw [br_len.1] at hp
  have HE := hide (Ucd.rside_eq r)
  go_enter Tryd.func37, Tryd.ntmps37
  go_wp2_with fail
  refine (rbr_any w).mono ?_
  rintro e w1 ⟨v, rfl, hb1, hown⟩
  obtain ⟨ao, cap, rfl, hrow⟩ := row_of_owns hown
  have HRW := hide hrow
  clear hrow hown
  go_wp2_with fail
  refine (partner_any Ucd.br r ao 42 cap w1 HRW.out (by omega) (by omega)).mono ?_
  rintro e w2 ⟨rfl, hb2⟩
  have HB := hide (hb1.trans (hb2.mono hb1.size))
  clear hb1 hb2
  by_cases hlt : (Ucd.part Ucd.br r).1 < 0
  · have HS : Hid (Ucd.side r = (0, 0)) := hide (by rw [← HE.out]; unfold Ucd.rside; rw [if_pos hlt])
    generalize (Ucd.part Ucd.br r).1 = k at *
    generalize (Ucd.part Ucd.br r).2 = z at *
    go_wp2
    go_ret2
    exact ⟨ret_pair HS.out, HB.out⟩
  · have HS : Hid (Ucd.side r = (1 + (Ucd.part Ucd.br r).1 % 2, (Ucd.part Ucd.br r).2)) := hide (by rw [← HE.out]; unfold Ucd.rside; rw [if_neg hlt])
    have ht : (Ucd.part Ucd.br r).1.tmod 2 = (Ucd.part Ucd.br r).1 % 2 := Int.tmod_eq_emod_of_nonneg (by omega)
    have hm : 0 ≤ (Ucd.part Ucd.br r).1 % 2 ∧ (Ucd.part Ucd.br r).1 % 2 < 2 := by omega
    generalize (Ucd.part Ucd.br r).1 % 2 = q at *
    generalize (Ucd.part Ucd.br r).1 = k at *
    generalize (Ucd.part Ucd.br r).2 = z at *
    go_wp2
    go_ret2
    exact ⟨ret_pair HS.out, HB.out⟩
theorem rcanon_any (r : Int) (w : World) (hr : (Lit.int .i32 r).wf = true) : Calls Tryd.prog 38 #[.int .i32 r] w fun e w' => e = .returned (.int .i32 (Ucd.canon r)) ∧ w = w' := by
  have hb := bounds_i32 hr
  clear hr
  by_cases h1 : r = 9001
  · subst h1
    go_enter Tryd.func38, Tryd.ntmps38
    go_wp2
    go_ret
    exact ⟨rfl, rfl⟩
  · by_cases h2 : r = 9002
    · subst h2
      go_enter Tryd.func38, Tryd.ntmps38
      go_wp2
      go_ret
      exact ⟨rfl, rfl⟩
    · have HC : Hid (Ucd.canon r = r) := hide (by unfold Ucd.canon; rw [if_neg h1, if_neg h2])
      have q1 : (r == 9001) = false := by simpa using h1
      have q2 : (r == 9002) = false := by simpa using h2
      go_enter Tryd.func38, Tryd.ntmps38
      go_wp2
      go_ret
      exact ⟨ret_int HC.out.symm, rfl⟩
end Go.Proofs.YtkkmifpdhcdkpaaDoor
