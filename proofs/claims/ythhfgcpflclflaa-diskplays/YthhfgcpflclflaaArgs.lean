/- Slices of integers as lists of numbers: what a walk is told of one, and how an argument's reading gives it; small closers. -/
import Derived.Test.YthhfgcpflclflaaLists
import Derived.WalkKit
import Derived.ProofKit
import Derived.OpenShut
import Derived.Below
import Derived.SizedLaws
import Derived.Laws.OwnMore
import Derived.ChangeKeysEq
namespace Go.Proofs.Ythhfgcpflclflaa
open Go.ChangeShapes Go.WideShapes Go.ChangeAt Go.RowKit
set_option linter.unusedVariables false
theorem hide {p : Prop} (h : p) : Hid p := h
theorem ret_int {k : IntKind} {a b : Int} (h : a = b) : Ending.returned (.int k a) = .returned (.int k b) := by rw [h]
theorem ret_ints {k l : IntKind} {a b c d : Int} (h : a = b) (h' : c = d) : Ending.returned (.tuple #[.int k a, .int l c]) = .returned (.tuple #[.int k b, .int l d]) := by rw [h, h']
theorem ret_bool {a b : Bool} (h : a = b) : Ending.returned (.bool a) = .returned (.bool b) := by rw [h]
/-- From an address on the cells hold these numbers. -/
def Cells (k : IntKind) (w : World) (b off : Nat) (zs : List Int) : Prop := ∀ i, i < zs.length → w.cell? ⟨b, off + i, none⟩ = some (.int k (zs.getD i 0))
theorem Cells.drop {k : IntKind} {w : World} {b off : Nat} {zs : List Int} (h : Cells k w b off zs) (e : Nat) : Cells k w b (off + e) (zs.drop e) := by
  intro i hi
  rw [List.length_drop] at hi
  have := h (e + i) (by omega)
  rw [show off + (e + i) = off + e + i from by omega] at this
  rw [this]
  simp [List.getD]
theorem Cells.take {k : IntKind} {w : World} {b off : Nat} {zs : List Int} (h : Cells k w b off zs) (e : Nat) : Cells k w b off (zs.take e) := by
  intro i hi
  rw [List.length_take] at hi
  rw [h i (by omega), getD_take (by omega)]
/-- A slice that holds these numbers. -/
structure Row (k : IntKind) (w : World) (ao : Option Addr) (n cap : Nat) (zs : List Int) : Prop where
  len : zs.length = n
  le : n ≤ cap
  max : cap ≤ maxLen
  cells : 0 < n → ∃ b off, ao = some ⟨b, off, none⟩ ∧ b < w.heap.size ∧ Cells k w b off zs
  nil : ao = none → cap = 0
theorem Row.take {k : IntKind} {w : World} {ao : Option Addr} {n cap : Nat} {zs : List Int} (h : Row k w ao n cap zs) {e : Nat} (he : e ≤ n) : Row k w ao e cap (zs.take e) :=
  ⟨by have := h.len; simp; omega, by have := h.le; omega, h.max, fun h0 => by
    obtain ⟨b, off, e1, e2, e3⟩ := h.cells (by omega)
    exact ⟨b, off, e1, e2, e3.take e⟩, h.nil⟩
/-- What is below a world's blocks is as it was. -/
theorem Row.below {k : IntKind} {w w' : World} {ao : Option Addr} {n cap : Nat} {zs : List Int} (h : Row k w ao n cap zs) (hb : Below w.heap.size w w') : Row k w' ao n cap zs :=
  ⟨h.len, h.le, h.max, fun h0 => by
    obtain ⟨b, off, e1, e2, e3⟩ := h.cells h0
    exact ⟨b, off, e1, Nat.lt_of_lt_of_le e2 hb.size, fun i hi => (hb.cell (by exact e2)).trans (e3 i hi)⟩, h.nil⟩
theorem Row.belowAt {k : IntKind} {w w' : World} {ao : Option Addr} {n cap : Nat} {zs : List Int} (h : Row k w ao n cap zs) {B : Nat} (hb : Below B w w') (hB : w.heap.size ≤ B) : Row k w' ao n cap zs := h.below (hb.mono hB)
/-- What a call owns, as a row. -/
theorem row_of_owns {k : IntKind} {w : World} {base e n : Nat} {v : Value} {zs : List Int} (h : w.ownsRow base e 1 v n (zs.map (Value.int k))) : ∃ ao cap, v = .slice ao n cap ∧ Row k w ao n cap zs := by
  have hl : zs.length = n := by have := h.1; simpa using this
  rcases h.2 with ⟨rfl, rfl⟩ | ⟨g, cap, cur, rfl, hb, hg, hn, hc, hs, ht⟩
  · exact ⟨none, 0, rfl, hl, Nat.le_refl _, Nat.zero_le _, fun h0 => by omega, fun _ => rfl⟩
  · refine ⟨_, cap, rfl, hl, hn, hc, fun h0 => ⟨g, 0, rfl, (Array.getElem?_eq_some_iff.1 hg).1, fun i hi => ?_⟩, fun h => by cases h⟩
    rw [Nat.zero_add, h.cellAt i (by omega)]
    rw [List.getElem?_map, List.getElem?_eq_getElem hi]
    simp [List.getD, List.getElem?_eq_getElem hi]
theorem row_of_cells {k : IntKind} {W : World} {x : Addr} {len cap : Nat} {zs : List Int} (hl : len ≤ cap) (hm : cap ≤ maxLen) (hz : zs.length = cap)
    (hcell : ∀ i, i < zs.length → W.cell? (x.add i) = some (.int k (zs.getD i 0))) : Row k W (some x) len cap (zs.take len) := by
  refine ⟨by simp; omega, hl, hm, fun h0 => ?_, fun h => by cases h⟩
  obtain ⟨b, off, spot⟩ := x
  have hc := hcell 0 (by omega)
  have hspot : spot = none := by simpa [Addr.add] using World.cell?_spot hc
  subst hspot
  have hb : b < W.heap.size := by simpa [Addr.add] using World.block_lt_of_cell? W _ hc
  refine ⟨b, off, rfl, hb, fun i hi => ?_⟩
  rw [List.length_take] at hi
  have := hcell i (by omega)
  rw [getD_take (by omega)]
  have hadd : (⟨b, off, none⟩ : Addr).add i = ⟨b, off + i, none⟩ := by unfold Addr.add; split <;> simp_all
  rw [hadd] at this
  exact this
/-- AN ARGUMENT THAT IS A SLICE OF INTEGERS: its numbers, and what its reading is. -/
theorem open_row {H : Type} {enc : TypeId × Value → H} {P : Program} {W : World} {t e : TypeId} {k : IntKind} {a : Option Addr} {len cap : Nat} {d : DataW H} {p : List MemPlace}
    (ht : P.underlying t = some (.slice e)) (he : P.underlying e = some (.int k)) (hc : P.cellsOf e = 1) (h : DataW.Trod enc P W 0 (fun _ => true) true t (.slice a len cap) d p) :
    ∃ zs : List Int, Row k W a len cap zs ∧ (∀ n ∈ zs, (Lit.int k n).wf = true) ∧ ((d = .nil ∧ cap = 0) ∨ ∃ elems spare, d = .slice elems spare ∧ elems.length + spare.length = cap) := by
  obtain ⟨fuel, hf⟩ := h
  rcases open_ints ht he hc hf with ⟨hcs, hx⟩ | ⟨x, l, c, zs, hcs, _, hl, hm, hz, hx, hcell, hwz⟩
  · simp [Value.cells] at hcs
    obtain ⟨rfl, rfl, rfl⟩ := hcs
    simp only [Prod.mk.injEq] at hx
    exact ⟨[], ⟨rfl, Nat.le_refl _, Nat.zero_le _, fun h0 => by omega, fun _ => rfl⟩, by simp, .inl ⟨hx.1, rfl⟩⟩
  · simp [Value.cells] at hcs
    obtain ⟨rfl, rfl, rfl⟩ := hcs
    simp only [Prod.mk.injEq] at hx
    simp only [if_true] at hz
    refine ⟨zs.take len, row_of_cells hl hm hz hcell, fun n hn => hwz n (List.mem_of_mem_take hn), .inr ⟨_, _, hx.1, ?_⟩⟩
    simp [lits]; omega
theorem Bytes.of_wf {zs : List Int} (h : ∀ n ∈ zs, (Lit.int .u8 n).wf = true) : Bytes zs := fun x hx => bounds_u8 (h x hx)
theorem Runes.of_wf {zs : List Int} (h : ∀ n ∈ zs, (Lit.int .i32 n).wf = true) : ∀ x ∈ zs, -2147483648 ≤ x ∧ x ≤ 2147483647 := fun x hx => bounds_i32 (h x hx)
theorem row_lit (k : IntKind) (w : World) (zs : List Int) (e : TypeId) (hm : zs.length ≤ maxLen) : Row k (w.alloc (.cells (zs.map (Value.int k)).toArray e)) (some ⟨w.heap.size, 0, none⟩) zs.length zs.length zs :=
  ⟨rfl, Nat.le_refl _, hm, fun _ => ⟨_, _, rfl, by simp, fun i hi => by
    rw [Nat.zero_add, World.cell?_alloc_mark]
    simp [List.getD, List.getElem?_eq_getElem hi]⟩, fun h => by cases h⟩
theorem row_mark (k : IntKind) (w : World) (zs : List Int) (e : TypeId) (fr : Nat × Nat) (hm : zs.length ≤ maxLen) : Row k (w.alloc (.cells (zs.map (Value.int k)).toArray e fr)) (some ⟨w.heap.size, 0, none⟩) zs.length zs.length zs :=
  ⟨rfl, Nat.le_refl _, hm, fun _ => ⟨_, _, rfl, by simp, fun i hi => by
    rw [Nat.zero_add, World.cell?_alloc_mark]
    simp [List.getD, List.getElem?_eq_getElem hi]⟩, fun h => by cases h⟩
theorem row_nil (k : IntKind) (w : World) : Row k w none 0 0 [] := ⟨rfl, Nat.le_refl _, Nat.zero_le _, fun h => by omega, fun _ => rfl⟩
theorem owns_below {w w' : World} {base e size n : Nat} {v : Value} {xs : List Value} (h : w.ownsRow base e size v n xs) (hb : Below w.heap.size w w') : w'.ownsRow base e size v n xs := by
  refine ⟨h.1, ?_⟩
  rcases h.2 with hn | ⟨g, cap, cur, rfl, hbs, hg, rest⟩
  · exact .inl hn
  · exact .inr ⟨g, cap, cur, rfl, hbs, (hb.block g (Array.getElem?_eq_some_iff.1 hg).1).trans hg, rest⟩
theorem owns_mono {w : World} {base base' e size n : Nat} {v : Value} {xs : List Value} (h : w.ownsRow base e size v n xs) (hb : base' ≤ base) : w.ownsRow base' e size v n xs := by
  refine ⟨h.1, ?_⟩
  rcases h.2 with hn | ⟨g, cap, cur, rfl, hbs, rest⟩
  · exact .inl hn
  · exact .inr ⟨g, cap, cur, rfl, Nat.le_trans hb hbs, rest⟩
theorem owns_empty (w : World) (e : TypeId) (b : Nat) (hb : w.heap.size = b) : (w.alloc (.cells #[] e)).ownsRow b e 1 (.slice (some ⟨b, 0, none⟩) 0 0) 0 [] := by
  subst hb
  exact World.ownsRow_lit w #[] 0 (Nat.le_refl _) (Nat.zero_le _) rfl
/-- An element of an array value, of one cell each. -/
theorem run_index_arr {P : Program} (w : World) {t e : TypeId} {n : Nat} {i : TypeInfo} (k : IntKind) (cs : Array Value) (j : Nat) (v : Value) (ht : P.underlying t = some (.array n e)) (hi : P.info? e = some i) (hc : P.cellsOf e = 1)
    (he : P.plainKey e = true) (hj : j < n) (hv : cs[j]? = some v) : (Instr.index t (.agg cs) (.int k (j : Int))).run P w = .ok v w := by
  have h1 : (0 : Int) ≤ (j : Int) ∧ (j : Int) < (n : Int) := by omega
  simp only [Instr.index, asIntOf, Sem.run_bind, Sem.run_pure, Result.andThen_ok, run_underlying ht]
  rw [if_pos h1]
  simp only [Sem.run_bind, run_sizeOf w hi, Result.andThen_ok, hc, Nat.mul_one, Int.toNat_natCast]
  exact run_part_plain w he hv
/-- A number stored into a row of the call's own. -/
theorem owns_set {w : World} {base e n cap g : Nat} {k : IntKind} {zs : List Int} (h : w.ownsRow base e 1 (.slice (some ⟨g, 0, none⟩) n cap) n (zs.map (Value.int k))) (j : Nat) (y : Int) :
    (w.setCell ⟨g, j, none⟩ (.int k y)).ownsRow base e 1 (.slice (some ⟨g, 0, none⟩) n cap) n ((zs.set j y).map (Value.int k)) := by
  have := (h.stored j (.int k y)).1
  rw [List.map_set]
  exact this
theorem owns_cell {w : World} {base e n cap g : Nat} {k : IntKind} {zs : List Int} (h : w.ownsRow base e 1 (.slice (some ⟨g, 0, none⟩) n cap) n (zs.map (Value.int k))) (j : Nat) (hj : j < n) : w.cell? ⟨g, j, none⟩ = some (.int k (zs.getD j 0)) := by
  have hl : zs.length = n := by have := h.1; simpa using this
  rw [h.cellAt j (by omega), List.getElem?_map, List.getElem?_eq_getElem (by omega)]
  simp [List.getD, List.getElem?_eq_getElem (show j < zs.length by omega)]
/-- 'int(uint64(at) % uint64(n))' is a place. -/
theorem place_at (at0 : Int) (n : Nat) (h0 : 0 < n) (h1 : n ≤ 9223372036854775807) : ∃ k : Nat, k < n ∧ wrap64 ((IntKind.u64.wrap at0).tmod (n : Int)) = (k : Int) := by
  rw [IntKind.wrap_u64, tmod_of_emod]
  have hn : (0 : Int) < (n : Int) := by omega
  have h2 := Int.emod_nonneg (at0 % 18446744073709551616) (show (n : Int) ≠ 0 by omega)
  have h3 := Int.emod_lt_of_pos (at0 % 18446744073709551616) hn
  refine ⟨(at0 % 18446744073709551616 % (n : Int)).toNat, by omega, ?_⟩
  unfold wrap64
  omega
end Go.Proofs.Ythhfgcpflclflaa
