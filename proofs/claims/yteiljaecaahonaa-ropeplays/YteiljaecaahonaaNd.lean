/- How a tree of nodes lies in memory; contracts of deep, len, seps, own. -/
import Derived.Test.YteiljaecaahonaaKeep
import Derived.Test.YteiljaecaahonaaRows
import Derived.Test.YteiljaecaahonaaTr
import Derived.Test.YteiljaecaahonaaArgs
import Derived.WalkKit
import Derived.WalkSpells
import Derived.WalkLawsBesides
import Derived.Outline
import Derived.Deep.RegionHeld3
import Derived.Deep.QuietTactic
import Derived.BigQuiet
namespace Go.Proofs.Yteiljaecaahonaa
open Go.RowKit
set_option linter.unusedVariables false
set_option maxHeartbeats 1000000
set_option maxRecDepth 100000
/-- The address that leads to a tree. -/
def Tr.at : Tr → Option Addr
  | .nil => none
  | .node b _ _ _ => some ⟨b, 0, none⟩
@[simp] theorem Tr.at_nil : Tr.nil.at = none := rfl
@[simp] theorem Tr.at_node (b l x r) : (Tr.node b l x r).at = some ⟨b, 0, none⟩ := rfl
@[simp] theorem Tr.at_mk (q b l x r) : (Tr.mk q b l x r).at = some ⟨b, 0, none⟩ := by cases q <;> rfl
theorem Tr.at_none {t : Tr} : t.at = none ↔ t = .nil := by cases t <;> simp
/-- The tree lies in the world, node by node. -/
def Lies (w : World) : Tr → Prop
  | .nil => True
  | .node b l x r => w.cell? ⟨b, 0, none⟩ = some (.pointer l.at) ∧ w.cell? ⟨b, 1, none⟩ = some (.pointer r.at) ∧ w.cell? ⟨b, 2, none⟩ = some (.int .i32 x) ∧
      w.cell? ⟨b, 3, none⟩ = some (.int .i64 ((Tr.node b l x r).high : Int)) ∧ w.cell? ⟨b, 4, none⟩ = some (.int .i64 ((Tr.node b l x r).size : Int)) ∧ w.cell? ⟨b, 5, none⟩ = some (.int .i64 ((Tr.node b l x r).brk : Int)) ∧ Lies w l ∧ Lies w r
theorem lies_nil (w : World) : Lies w .nil := trivial
theorem Lies.below {w w' : World} {t : Tr} (h : Lies w t) (hb : Below w.heap.size w w') : Lies w' t := by
  induction t with
  | nil => trivial
  | node b l x r ihl ihr =>
    obtain ⟨c0, c1, c2, c3, c4, c5, hl, hr⟩ := h
    have hlt : b < w.heap.size := by simpa using World.block_lt_of_cell? w _ c0
    exact ⟨(hb.cell (by exact hlt)).trans c0, (hb.cell (by exact hlt)).trans c1, (hb.cell (by exact hlt)).trans c2, (hb.cell (by exact hlt)).trans c3, (hb.cell (by exact hlt)).trans c4, (hb.cell (by exact hlt)).trans c5, ihl hl, ihr hr⟩
theorem Lies.belowAt {w w' : World} {t : Tr} (h : Lies w t) {B : Nat} (hb : Below B w w') (hB : w.heap.size ≤ B) : Lies w' t := h.below (hb.mono hB)
/-- A node of which the number and the count of separators alone are told. -/
def Top (w : World) (b : Nat) (x : Int) : Prop := ∃ l r : Tr, w.cell? ⟨b, 0, none⟩ = some (.pointer l.at) ∧ w.cell? ⟨b, 1, none⟩ = some (.pointer r.at) ∧ w.cell? ⟨b, 2, none⟩ = some (.int .i32 x) ∧
    w.cell? ⟨b, 5, none⟩ = some (.int .i64 ((l.brk + r.brk + sep x : Nat) : Int)) ∧ Lies w l ∧ Lies w r ∧ l.brk + r.brk + 1 ≤ 4611686018427387904
theorem Top.below {w w' : World} {b : Nat} {x : Int} (h : Top w b x) (hb : Below w.heap.size w w') : Top w' b x := by
  obtain ⟨l, r, c0, c1, c2, c5, hl, hr, hk⟩ := h
  have hlt : b < w.heap.size := by simpa using World.block_lt_of_cell? w _ c0
  exact ⟨l, r, (hb.cell (by exact hlt)).trans c0, (hb.cell (by exact hlt)).trans c1, (hb.cell (by exact hlt)).trans c2, (hb.cell (by exact hlt)).trans c5, hl.below hb, hr.below hb, hk⟩
theorem Lies.top {w : World} {b : Nat} {l r : Tr} {x : Int} (h : Lies w (.node b l x r)) (hs : (Tr.node b l x r).size ≤ 4611686018427387904) : Top w b x := by
  obtain ⟨c0, c1, c2, c3, c4, c5, hl, hr⟩ := h
  refine ⟨l, r, c0, c1, c2, by rw [c5, Tr.brk_node], hl, hr, ?_⟩
  have := l.brk_le
  have := r.brk_le
  rw [Tr.size_node] at hs
  omega
theorem Lies.mk_top {w : World} {q : Bool} {b : Nat} {l r : Tr} {x : Int} (h : Lies w (Tr.mk q b l x r)) (hs : (Tr.mk q b l x r).size ≤ 4611686018427387904) : Top w b x := by
  cases q
  · exact Lies.top h hs
  · exact Lies.top h hs
theorem wrap_small {x : Int} (h1 : -9223372036854775808 ≤ x) (h2 : x ≤ 9223372036854775807) : IntKind.i64.wrap x = x := by rw [IntKind.wrap_i64]; omega
theorem len_any (t : Tr) (w : World) (h : Lies w t) :
    Calls Try.prog 48 #[.pointer t.at] w fun e w' => e = .returned (.int .i64 (t.size : Int)) ∧ w = w' := by
  cases t with
  | nil =>
    go_enter Try.func48, Try.ntmps48
    go_wp2
    go_ret
    exact ⟨rfl, rfl⟩
  | node b l x r =>
    obtain ⟨c0, c1, c2, c3, c4, c5, hl, hr⟩ := h
    obtain ⟨z, hz⟩ : ∃ z, (Tr.node b l x r).size = z := ⟨_, rfl⟩
    rw [hz] at c4 ⊢
    clear c0 c1 c2 c3 c5 hl hr hz
    go_enter Try.func48, Try.ntmps48
    go_wp2
    go_ret
    exact ⟨rfl, rfl⟩
theorem deep_any (t : Tr) (w : World) (h : Lies w t) :
    Calls Try.prog 50 #[.pointer t.at] w fun e w' => e = .returned (.int .i64 (t.high : Int)) ∧ w = w' := by
  cases t with
  | nil =>
    go_enter Try.func50, Try.ntmps50
    go_wp2
    go_ret
    exact ⟨rfl, rfl⟩
  | node b l x r =>
    obtain ⟨c0, c1, c2, c3, c4, c5, hl, hr⟩ := h
    obtain ⟨z, hz⟩ : ∃ z, (Tr.node b l x r).high = z := ⟨_, rfl⟩
    rw [hz] at c3 ⊢
    clear c0 c1 c2 c4 c5 hl hr hz
    go_enter Try.func50, Try.ntmps50
    go_wp2
    go_ret
    exact ⟨rfl, rfl⟩
theorem seps_any (t : Tr) (w : World) (h : Lies w t) :
    Calls Try.prog 49 #[.pointer t.at] w fun e w' => e = .returned (.int .i64 (t.brk : Int)) ∧ w = w' := by
  cases t with
  | nil =>
    go_enter Try.func49, Try.ntmps49
    go_wp2
    go_ret
    exact ⟨rfl, rfl⟩
  | node b l x r =>
    obtain ⟨c0, c1, c2, c3, c4, c5, hl, hr⟩ := h
    obtain ⟨z, hz⟩ : ∃ z, (Tr.node b l x r).brk = z := ⟨_, rfl⟩
    rw [hz] at c5 ⊢
    clear c0 c1 c2 c3 c4 hl hr hz
    go_enter Try.func49, Try.ntmps49
    go_wp2
    go_ret
    exact ⟨rfl, rfl⟩
theorem Below.drewN (w : World) (n : Nat) : Below w.heap.size w (w.drewN n) := ⟨rfl, rfl, rfl, Nat.le_refl _, fun _ _ => rfl⟩
theorem Calls.quietly {P : Program} {f : FuncId} {args : Array Value} {w : World} {n : Nat} {v : Value} (h : Calls P f args (w.drewN n) fun e w' => e = .returned v ∧ w.drewN n = w') : Calls P f args (w.drewN n) fun e w'' => e = .returned v ∧ ∃ m, w'' = w.drewN m :=
  h.mono fun _ _ ⟨he, hm⟩ => ⟨he, n, hm.symm⟩
theorem own_any (b : Nat) (x : Int) (w : World) (h : Top w b x) :
    Calls Try.prog 59 #[.pointer (some ⟨b, 0, none⟩)] w fun e w' => e = .returned (.int .i64 (sep x : Int)) ∧ ∃ n, w' = w.drewN n := by
  obtain ⟨l, r, c0, c1, c2, c5, hl, hr, hk⟩ := h
  have HL := hide (fun n => seps_any l (w.drewN n) (hl.below (Below.drewN w n)))
  have HR := hide (fun n => seps_any r (w.drewN n) (hr.below (Below.drewN w n)))
  obtain ⟨k, hk0⟩ : ∃ k, l.brk + r.brk + sep x = k := ⟨_, rfl⟩
  rw [hk0] at c5
  obtain ⟨p, hp⟩ : ∃ p, l.at = p := ⟨_, rfl⟩
  obtain ⟨q, hq⟩ : ∃ q, r.at = q := ⟨_, rfl⟩
  rw [hp] at HL c0
  rw [hq] at HR c1
  obtain ⟨z, hz⟩ : ∃ z, (sep x : Int) = z := ⟨_, rfl⟩
  rw [hz]
  have HW := hide (show wrap64 (wrap64 ((k : Int) - (l.brk : Int)) - (r.brk : Int)) = z from by
    rw [w64_small (x := (k : Int) - (l.brk : Int)) (by omega) (by have := sep_le x; omega), w64_small (by omega) (by have := sep_le x; omega)]; omega)
  clear hk hk0 hl hr hp hq hz c2
  go_enter Try.func59, Try.ntmps59
  go_wp2_with fail
  go_quiet (first | (go_at_call_of 49 p; refine Calls.quietly (HL.out _)) | (go_at_call_of 49 q; refine Calls.quietly (HR.out _)))
  go_wp2
  go_ret
  exact ⟨ret_int HW.out, _, rfl⟩
end Go.Proofs.Yteiljaecaahonaa
