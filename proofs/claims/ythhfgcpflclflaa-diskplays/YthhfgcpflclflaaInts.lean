/- Rows of ints: their type, what a call owns of them, like ones. -/
import Derived.Test.YthhfgcpflclflaaRows
import Derived.Test.YthhfgcpflclflaaKeep
import Derived.Test.YthhfgcpflclflaaCopy
import Derived.Test.YthhfgcpflclflaaSlices
import Derived.WalkKit
import Derived.WalkSpells
import Derived.WalkLawsBesides
import Derived.WalkSmall
import Derived.OwnWalk
import Derived.Deep.QuietTactic
import Derived.BigQuiet
namespace Go.Proofs.Ythhfgcpflclflaa
open Go.RowKit
set_option linter.unusedVariables false
set_option maxHeartbeats 1000000
set_option maxRecDepth 100000
theorem infoInt : (Try.prog.info? 3).map (fun i => (i.zero, i.size, i.bytes)) = some (some (.int .i64 0), 1, 8) := by kernel_rfl
theorem cellsInt : Try.prog.cellsOf 3 = 1 := by kernel_rfl
theorem owns_keep {w w' : World} {base e size n cap g : Nat} {xs : List Value} (h : w.ownsRow base e size (.slice (some ⟨g, 0, none⟩) n cap) n xs) {B : Nat} (hb : Below B w w') (hg : g < B) : w'.ownsRow base e size (.slice (some ⟨g, 0, none⟩) n cap) n xs := by
  refine ⟨h.1, ?_⟩
  rcases h.2 with ⟨h0, _⟩ | ⟨g', cap', cur, hv, hbs, hh, rest⟩
  · cases h0
  · cases hv
    exact .inr ⟨g, cap, cur, rfl, hbs, (hb.block g hg).trans hh, rest⟩
theorem owns_form {w : World} {base e size n : Nat} {v : Value} {xs : List Value} (h : w.ownsRow base e size v n xs) : ∃ a cap, v = .slice a n cap ∧ n ≤ cap := by
  rcases h.2 with ⟨rfl, rfl⟩ | ⟨g, cap, cur, rfl, _, _, hle, _⟩
  · exact ⟨none, 0, rfl, Nat.le_refl _⟩
  · exact ⟨_, cap, rfl, hle⟩
theorem owns_pos {w : World} {base e size n : Nat} {v : Value} {xs : List Value} (h : w.ownsRow base e size v n xs) (hn : 0 < n) : ∃ g cap, v = .slice (some ⟨g, 0, none⟩) n cap ∧ base ≤ g ∧ n ≤ cap := by
  rcases h.2 with ⟨rfl, rfl⟩ | ⟨g, cap, cur, rfl, hb, _, hle, _⟩
  · omega
  · exact ⟨g, cap, rfl, hb, hle⟩
theorem row_one (w : World) (s : Nat) (hs : w.heap.size = s) (k : Int) : Row .i64 (w.alloc (.cells #[.int .i64 k] 3)) (some ⟨s, 0, none⟩) 1 1 [k] := by
  subst hs; exact row_lit .i64 w [k] 3 (by unfold maxLen; simp)
theorem size_set (w : World) (p : Addr) (v : Value) : (w.setCell p v).heap.size = w.heap.size := by simp [World.setCell]
theorem row_owned {w : World} {base n cap g : Nat} {zs : List Int} (h : w.ownsRow base 3 1 (.slice (some ⟨g, 0, none⟩) n cap) n (zs.map (Value.int .i64))) : Row .i64 w (some ⟨g, 0, none⟩) n cap zs := by
  obtain ⟨ao, c, e, hr⟩ := row_of_owns h
  simp only [Value.slice.injEq] at e
  obtain ⟨rfl, _, rfl⟩ := e
  exact hr
theorem rowAt {w w' : World} {b off n cap : Nat} {zs : List Int} (h : Row .i64 w (some ⟨b, off, none⟩) n cap zs) (hk : KO w w') (j : Nat) (hj : j < n) : w'.cell? ⟨b, off + j, none⟩ = some (.int .i64 (zs.getD j 0)) := by
  obtain ⟨b2, o2, e, hb, hc⟩ := h.cells (by omega)
  simp only [Option.some.injEq, Addr.mk.injEq, and_true] at e
  obtain ⟨rfl, rfl⟩ := e
  exact (Below.cell hk (by exact hb)).trans (hc j (by rw [h.len]; exact hj))
theorem owns_block {w : World} {base g n : Nat} {cur : Array Value} {zs : List Int} (hg : w.heap[g]? = some (.cells cur 3 (0, 0))) (hl : cur.toList = zs.map (Value.int .i64)) (hn : zs.length = n) (hm : n ≤ maxLen) (hb : base ≤ g) :
    w.ownsRow base 3 1 (.slice (some ⟨g, 0, none⟩) n n) n (zs.map (Value.int .i64)) := by
  have hs : cur.size = n := by rw [← Array.length_toList, hl, List.length_map, hn]
  refine ⟨by rw [List.length_map, hn, Nat.mul_one], .inr ⟨g, n, cur, rfl, hb, hg, Nat.le_refl _, hm, by rw [hs, Nat.mul_one], ?_⟩⟩
  rw [Nat.mul_one, hl, List.take_of_length_le (by rw [List.length_map, hn]; exact Nat.le_refl _)]
theorem ownAt {w w' : World} {base n cap g : Nat} {zs : List Int} (h : w.ownsRow base 3 1 (.slice (some ⟨g, 0, none⟩) n cap) n (zs.map (Value.int .i64))) (hk : KO w w') (j : Nat) (hj : j < n) : w'.cell? ⟨g, j, none⟩ = some (.int .i64 (zs.getD j 0)) :=
  (Below.cell hk (by exact (h.lt g rfl).2)).trans (owns_cell h j hj)
theorem getD_set' (l : List Int) (i j : Nat) (y : Int) (hi : i < l.length) : (l.set i y).getD j 0 = if i = j then y else l.getD j 0 := by
  by_cases h : i = j
  · subst h; simp [List.getD, hi]
  · rw [if_neg h]; simp [List.getD, List.getElem?_set_ne h]
theorem meas_n0 (n k : Nat) (h : k < n) : n - (intOf (.int .i64 ((k : Int) + 1))).toNat < n - (intOf (.int .i64 (k : Int))).toNat := by simp [intOf]; omega
theorem run_mid {P : Program} {t e : TypeId} {i : TypeInfo} (ht : P.underlying t = some (.slice e)) (hi : P.info? e = some i) (hc : P.cellsOf e = 1) (ao : Option Addr) (n cap j k : Nat) (hj : j ≤ k) (hk : k ≤ cap) (w : World) :
    (Instr.slice t (.slice ao n cap) (some (.int .i64 (j : Int))) (some (.int .i64 (k : Int))) none).run P w = .ok (.slice (tl ao cap j) (k - j) (cap - j)) w := by
  have e1 : (0 : Int) ≤ (j : Int) ∧ (j : Int) ≤ (k : Int) := by omega
  have e2 : (0 : Int) ≤ (k : Int) ∧ (k : Int) ≤ (cap : Int) := by omega
  simp [Instr.slice, run_underlying ht, Instr.sliceBounds, go_sem, e1, e2, run_sizeOf w hi, hc, tl]
  intro h; omega
theorem ints_yes (a0 a1 : Option Addr) (n c0 c1 : Nat) (l : List Int) (w : World) (h0 : Row .i64 w a0 n c0 l) (h1 : Row .i64 w a1 n c1 l) :
    Calls Try.prog 30 #[.slice a0 n c0, .slice a1 n c1] w fun e w' => e = .returned (.bool true) ∧ ∃ k, w' = w.drewN k := by
  have hx := h0.le
  have hm := h0.max
  unfold maxLen at hm
  have hl := h0.len
  have H0 := hide h0
  have H1 := hide h1
  have HL := hide hl
  clear h0 h1 hl
  go_enter Try.func30, Try.ntmps30
  go_wp2
  go_loopw [5] (fun i wr => ∃ k nq : Nat, k ≤ n ∧ i = .int .i64 k ∧ wr = w.drewN nq) (fun i _ => n - (intOf i).toNat)
  case atStart => exact ⟨0, 0, Nat.zero_le _, rfl, rfl⟩
  case round =>
    obtain ⟨k, nq, hk, rfl, rfl⟩ := hrel
    by_cases hlt : k < n
    · obtain ⟨b0, o0, rfl, _, hc0⟩ := H0.out.cells (by omega)
      obtain ⟨b1, o1, rfl, _, hc1⟩ := H1.out.cells (by omega)
      have g0 := hc0 k (by have := HL.out; omega)
      have g1 := hc1 k (by have := HL.out; omega)
      clear hc0 hc1
      generalize l.getD k 0 = x at *
      have hlt' : (k : Int) < (n : Int) := by omega
      go_wp2
      go_quiet (fail)
      go_wp2
      go_roundw
      case rel => exact ⟨k + 1, _, by omega, by go_num, by first | rfl | exact World.drewN_drewN _ _ _⟩
      case measure => simp [intOf]; omega
    · go_wp2
      go_ret
      exact ⟨rfl, _, rfl⟩
theorem below_drewN (w : World) (k : Nat) : Below w.heap.size w (w.drewN k) := by have h := Below.refl w.heap.size w; exact ⟨h.os, h.tape, h.output, h.size, h.block⟩
theorem below_of_drewN {w w' : World} (h : ∃ k, w' = w.drewN k) : Below w.heap.size w w' := by obtain ⟨k, rfl⟩ := h; exact below_drewN w k
end Go.Proofs.Ythhfgcpflclflaa
