import Derived.RowKit
import Derived.WalkKit
import Derived.ProofKit
import Derived.OpenShut
import Derived.Below
import Derived.SizedLaws
import Derived.Laws.OwnMore
import Derived.ChangeKeysEq
import Derived.Laws.AppendOwnNone
import Derived.Test.YtfadjgaledddjaaGreatDoorRows
import Derived.WalkSpells
import Derived.WalkLawsBesides
import Derived.WalkSmall
import Derived.OwnWalk
import Derived.Deep.QuietTactic
import Derived.BigQuiet
import Derived.Laws.CopyOwn
import Derived.Laws.AppendOwn
/- Plain mathematics of lists of numbers. No Go in sight. -/
namespace Go.Proofs.YtfadjgaledddjaaGreatDoor
def Bytes (zs : List Int) : Prop := ∀ x ∈ zs, 0 ≤ x ∧ x ≤ 255
theorem Bytes.drop {zs : List Int} (h : Bytes zs) (e : Nat) : Bytes (zs.drop e) := fun x hx => h x (List.mem_of_mem_drop hx)
theorem Bytes.take {zs : List Int} (h : Bytes zs) (e : Nat) : Bytes (zs.take e) := fun x hx => h x (List.mem_of_mem_take hx)
theorem Bytes.nil : Bytes [] := by intro x hx; cases hx
theorem Bytes.head {c : Int} {cs : List Int} (h : Bytes (c :: cs)) : 0 ≤ c ∧ c ≤ 255 := h c (by simp)
theorem Bytes.tail {c : Int} {cs : List Int} (h : Bytes (c :: cs)) : Bytes cs := fun x hx => h x (by simp [hx])
theorem Bytes.append {xs ys : List Int} (h : Bytes xs) (k : Bytes ys) : Bytes (xs ++ ys) := by
  intro x hx
  rcases List.mem_append.1 hx with hx | hx
  · exact h x hx
  · exact k x hx
theorem Bytes.getD {zs : List Int} (h : Bytes zs) (k : Nat) : 0 ≤ zs.getD k 0 ∧ zs.getD k 0 ≤ 255 := by
  by_cases hk : k < zs.length
  · have e : zs.getD k 0 = zs[k] := by simp [List.getD, List.getElem?_eq_getElem hk]
    rw [e]; exact h _ (List.getElem_mem _)
  · have e : zs.getD k 0 = 0 := by simp [List.getD, List.getElem?_eq_none (Nat.le_of_not_lt hk)]
    rw [e]; omega
theorem getD_take {T : List Int} {n k : Nat} (h : k < n) : (T.take n).getD k 0 = T.getD k 0 := by
  simp [List.getD, h]
theorem take_snoc (l : List Int) (k : Nat) (h : k < l.length) : l.take (k + 1) = l.take k ++ [l.getD k 0] := by
  rw [List.take_succ_eq_append_getElem h]; simp [List.getD, List.getElem?_eq_getElem h]
theorem getD_left (a b : List Int) (i : Nat) (h : i < a.length) : (a ++ b).getD i 0 = a.getD i 0 := by
  simp [List.getD, List.getElem?_append_left h]
theorem getD_right (a b : List Int) (i : Nat) : (a ++ b).getD (a.length + i) 0 = b.getD i 0 := by
  simp [List.getD, List.getElem?_append_right]
end Go.Proofs.YtfadjgaledddjaaGreatDoor

/- Slices of integers as lists of numbers: what a walk is told of one, and how an argument's reading gives it; small closers. -/
namespace Go.Proofs.YtfadjgaledddjaaGreatDoor
open Go.ChangeShapes Go.WideShapes Go.ChangeAt Go.RowKit
set_option linter.unusedVariables false
theorem hide {p : Prop} (h : p) : Hid p := h
theorem ret_int {k : IntKind} {a b : Int} (h : a = b) : Ending.returned (.int k a) = .returned (.int k b) := by rw [h]
theorem ret_ints {k l : IntKind} {a b c d : Int} (h : a = b) (h' : c = d) : Ending.returned (.tuple #[.int k a, .int l c]) = .returned (.tuple #[.int k b, .int l d]) := by rw [h, h']
theorem ret_bool {a b : Bool} (h : a = b) : Ending.returned (.bool a) = .returned (.bool b) := by rw [h]
/-- From an address on the cells hold these numbers. -/
def Cells (k : IntKind) (w : World) (b off : Nat) (zs : List Int) : Prop := ∀ i, i < zs.length → w.cell? ⟨b, off + i, none⟩ = some (.int k (zs.getD i 0))
theorem Cells.drop {k : IntKind} {w : World} {b off : Nat} {zs : List Int} (h : Cells k w b off zs) (e : Nat) : Cells k w b (off + e) (zs.drop e) := by
  intro i hi
  rw [List.length_drop] at hi
  have := h (e + i) (by omega)
  rw [show off + (e + i) = off + e + i from by omega] at this
  rw [this]
  simp [List.getD]
theorem Cells.take {k : IntKind} {w : World} {b off : Nat} {zs : List Int} (h : Cells k w b off zs) (e : Nat) : Cells k w b off (zs.take e) := by
  intro i hi
  rw [List.length_take] at hi
  rw [h i (by omega), getD_take (by omega)]
/-- A slice that holds these numbers. -/
structure Row (k : IntKind) (w : World) (ao : Option Addr) (n cap : Nat) (zs : List Int) : Prop where
  len : zs.length = n
  le : n ≤ cap
  max : cap ≤ maxLen
  cells : 0 < n → ∃ b off, ao = some ⟨b, off, none⟩ ∧ b < w.heap.size ∧ Cells k w b off zs
  nil : ao = none → cap = 0
theorem Row.take {k : IntKind} {w : World} {ao : Option Addr} {n cap : Nat} {zs : List Int} (h : Row k w ao n cap zs) {e : Nat} (he : e ≤ n) : Row k w ao e cap (zs.take e) :=
  ⟨by have := h.len; simp; omega, by have := h.le; omega, h.max, fun h0 => by
    obtain ⟨b, off, e1, e2, e3⟩ := h.cells (by omega)
    exact ⟨b, off, e1, e2, e3.take e⟩, h.nil⟩
/-- What is below a world's blocks is as it was. -/
theorem Row.below {k : IntKind} {w w' : World} {ao : Option Addr} {n cap : Nat} {zs : List Int} (h : Row k w ao n cap zs) (hb : Below w.heap.size w w') : Row k w' ao n cap zs :=
  ⟨h.len, h.le, h.max, fun h0 => by
    obtain ⟨b, off, e1, e2, e3⟩ := h.cells h0
    exact ⟨b, off, e1, Nat.lt_of_lt_of_le e2 hb.size, fun i hi => (hb.cell (by exact e2)).trans (e3 i hi)⟩, h.nil⟩
theorem Row.belowAt {k : IntKind} {w w' : World} {ao : Option Addr} {n cap : Nat} {zs : List Int} (h : Row k w ao n cap zs) {B : Nat} (hb : Below B w w') (hB : w.heap.size ≤ B) : Row k w' ao n cap zs := h.below (hb.mono hB)
/-- What a call owns, as a row. -/
theorem row_of_owns {k : IntKind} {w : World} {base e n : Nat} {v : Value} {zs : List Int} (h : w.ownsRow base e 1 v n (zs.map (Value.int k))) : ∃ ao cap, v = .slice ao n cap ∧ Row k w ao n cap zs := by
  have hl : zs.length = n := by have := h.1; simpa using this
  rcases h.2 with ⟨rfl, rfl⟩ | ⟨g, cap, cur, rfl, hb, hg, hn, hc, hs, ht⟩
  · exact ⟨none, 0, rfl, hl, Nat.le_refl _, Nat.zero_le _, fun h0 => by omega, fun _ => rfl⟩
  · refine ⟨_, cap, rfl, hl, hn, hc, fun h0 => ⟨g, 0, rfl, (Array.getElem?_eq_some_iff.1 hg).1, fun i hi => ?_⟩, fun h => by cases h⟩
    rw [Nat.zero_add, h.cellAt i (by omega)]
    rw [List.getElem?_map, List.getElem?_eq_getElem hi]
    simp [List.getD, List.getElem?_eq_getElem hi]
theorem row_of_cells {k : IntKind} {W : World} {x : Addr} {len cap : Nat} {zs : List Int} (hl : len ≤ cap) (hm : cap ≤ maxLen) (hz : zs.length = cap)
    (hcell : ∀ i, i < zs.length → W.cell? (x.add i) = some (.int k (zs.getD i 0))) : Row k W (some x) len cap (zs.take len) := by
  refine ⟨by simp; omega, hl, hm, fun h0 => ?_, fun h => by cases h⟩
  obtain ⟨b, off, spot⟩ := x
  have hc := hcell 0 (by omega)
  have hspot : spot = none := by simpa [Addr.add] using World.cell?_spot hc
  subst hspot
  have hb : b < W.heap.size := by simpa [Addr.add] using World.block_lt_of_cell? W _ hc
  refine ⟨b, off, rfl, hb, fun i hi => ?_⟩
  rw [List.length_take] at hi
  have := hcell i (by omega)
  rw [getD_take (by omega)]
  have hadd : (⟨b, off, none⟩ : Addr).add i = ⟨b, off + i, none⟩ := by unfold Addr.add; split <;> simp_all
  rw [hadd] at this
  exact this
/-- AN ARGUMENT THAT IS A SLICE OF INTEGERS: its numbers, and what its reading is. -/
theorem open_row {H : Type} {enc : TypeId × Value → H} {P : Program} {W : World} {t e : TypeId} {k : IntKind} {a : Option Addr} {len cap : Nat} {d : DataW H} {p : List MemPlace}
    (ht : P.underlying t = some (.slice e)) (he : P.underlying e = some (.int k)) (hc : P.cellsOf e = 1) (h : DataW.Trod enc P W 0 (fun _ => true) true t (.slice a len cap) d p) :
    ∃ zs : List Int, Row k W a len cap zs ∧ (∀ n ∈ zs, (Lit.int k n).wf = true) ∧ ((d = .nil ∧ cap = 0) ∨ ∃ elems spare, d = .slice elems spare ∧ elems.length + spare.length = cap) := by
  obtain ⟨fuel, hf⟩ := h
  rcases open_ints ht he hc hf with ⟨hcs, hx⟩ | ⟨x, l, c, zs, hcs, _, hl, hm, hz, hx, hcell, hwz⟩
  · simp [Value.cells] at hcs
    obtain ⟨rfl, rfl, rfl⟩ := hcs
    simp only [Prod.mk.injEq] at hx
    exact ⟨[], ⟨rfl, Nat.le_refl _, Nat.zero_le _, fun h0 => by omega, fun _ => rfl⟩, by simp, .inl ⟨hx.1, rfl⟩⟩
  · simp [Value.cells] at hcs
    obtain ⟨rfl, rfl, rfl⟩ := hcs
    simp only [Prod.mk.injEq] at hx
    simp only [if_true] at hz
    refine ⟨zs.take len, row_of_cells hl hm hz hcell, fun n hn => hwz n (List.mem_of_mem_take hn), .inr ⟨_, _, hx.1, ?_⟩⟩
    simp [lits]; omega
theorem Bytes.of_wf {zs : List Int} (h : ∀ n ∈ zs, (Lit.int .u8 n).wf = true) : Bytes zs := fun x hx => bounds_u8 (h x hx)
theorem Runes.of_wf {zs : List Int} (h : ∀ n ∈ zs, (Lit.int .i32 n).wf = true) : ∀ x ∈ zs, -2147483648 ≤ x ∧ x ≤ 2147483647 := fun x hx => bounds_i32 (h x hx)
theorem row_lit (k : IntKind) (w : World) (zs : List Int) (e : TypeId) (hm : zs.length ≤ maxLen) : Row k (w.alloc (.cells (zs.map (Value.int k)).toArray e)) (some ⟨w.heap.size, 0, none⟩) zs.length zs.length zs :=
  ⟨rfl, Nat.le_refl _, hm, fun _ => ⟨_, _, rfl, by simp, fun i hi => by
    rw [Nat.zero_add, World.cell?_alloc_mark]
    simp [List.getD, List.getElem?_eq_getElem hi]⟩, fun h => by cases h⟩
theorem row_mark (k : IntKind) (w : World) (zs : List Int) (e : TypeId) (fr : Nat × Nat) (hm : zs.length ≤ maxLen) : Row k (w.alloc (.cells (zs.map (Value.int k)).toArray e fr)) (some ⟨w.heap.size, 0, none⟩) zs.length zs.length zs :=
  ⟨rfl, Nat.le_refl _, hm, fun _ => ⟨_, _, rfl, by simp, fun i hi => by
    rw [Nat.zero_add, World.cell?_alloc_mark]
    simp [List.getD, List.getElem?_eq_getElem hi]⟩, fun h => by cases h⟩
theorem row_nil (k : IntKind) (w : World) : Row k w none 0 0 [] := ⟨rfl, Nat.le_refl _, Nat.zero_le _, fun h => by omega, fun _ => rfl⟩
theorem owns_below {w w' : World} {base e size n : Nat} {v : Value} {xs : List Value} (h : w.ownsRow base e size v n xs) (hb : Below w.heap.size w w') : w'.ownsRow base e size v n xs := by
  refine ⟨h.1, ?_⟩
  rcases h.2 with hn | ⟨g, cap, cur, rfl, hbs, hg, rest⟩
  · exact .inl hn
  · exact .inr ⟨g, cap, cur, rfl, hbs, (hb.block g (Array.getElem?_eq_some_iff.1 hg).1).trans hg, rest⟩
theorem owns_mono {w : World} {base base' e size n : Nat} {v : Value} {xs : List Value} (h : w.ownsRow base e size v n xs) (hb : base' ≤ base) : w.ownsRow base' e size v n xs := by
  refine ⟨h.1, ?_⟩
  rcases h.2 with hn | ⟨g, cap, cur, rfl, hbs, rest⟩
  · exact .inl hn
  · exact .inr ⟨g, cap, cur, rfl, Nat.le_trans hb hbs, rest⟩
theorem owns_empty (w : World) (e : TypeId) (b : Nat) (hb : w.heap.size = b) : (w.alloc (.cells #[] e)).ownsRow b e 1 (.slice (some ⟨b, 0, none⟩) 0 0) 0 [] := by
  subst hb
  exact World.ownsRow_lit w #[] 0 (Nat.le_refl _) (Nat.zero_le _) rfl
/-- An element of an array value, of one cell each. -/
theorem run_index_arr {P : Program} (w : World) {t e : TypeId} {n : Nat} {i : TypeInfo} (k : IntKind) (cs : Array Value) (j : Nat) (v : Value) (ht : P.underlying t = some (.array n e)) (hi : P.info? e = some i) (hc : P.cellsOf e = 1)
    (he : P.plainKey e = true) (hj : j < n) (hv : cs[j]? = some v) : (Instr.index t (.agg cs) (.int k (j : Int))).run P w = .ok v w := by
  have h1 : (0 : Int) ≤ (j : Int) ∧ (j : Int) < (n : Int) := by omega
  simp only [Instr.index, asIntOf, Sem.run_bind, Sem.run_pure, Result.andThen_ok, run_underlying ht]
  rw [if_pos h1]
  simp only [Sem.run_bind, run_sizeOf w hi, Result.andThen_ok, hc, Nat.mul_one, Int.toNat_natCast]
  exact run_part_plain w he hv
/-- A number stored into a row of the call's own. -/
theorem owns_set {w : World} {base e n cap g : Nat} {k : IntKind} {zs : List Int} (h : w.ownsRow base e 1 (.slice (some ⟨g, 0, none⟩) n cap) n (zs.map (Value.int k))) (j : Nat) (y : Int) :
    (w.setCell ⟨g, j, none⟩ (.int k y)).ownsRow base e 1 (.slice (some ⟨g, 0, none⟩) n cap) n ((zs.set j y).map (Value.int k)) := by
  have := (h.stored j (.int k y)).1
  rw [List.map_set]
  exact this
theorem owns_cell {w : World} {base e n cap g : Nat} {k : IntKind} {zs : List Int} (h : w.ownsRow base e 1 (.slice (some ⟨g, 0, none⟩) n cap) n (zs.map (Value.int k))) (j : Nat) (hj : j < n) : w.cell? ⟨g, j, none⟩ = some (.int k (zs.getD j 0)) := by
  have hl : zs.length = n := by have := h.1; simpa using this
  rw [h.cellAt j (by omega), List.getElem?_map, List.getElem?_eq_getElem (by omega)]
  simp [List.getD, List.getElem?_eq_getElem (show j < zs.length by omega)]
/-- 'int(uint64(at) % uint64(n))' is a place. -/
theorem place_at (at0 : Int) (n : Nat) (h0 : 0 < n) (h1 : n ≤ 9223372036854775807) : ∃ k : Nat, k < n ∧ wrap64 ((IntKind.u64.wrap at0).tmod (n : Int)) = (k : Int) := by
  rw [IntKind.wrap_u64, tmod_of_emod]
  have hn : (0 : Int) < (n : Int) := by omega
  have h2 := Int.emod_nonneg (at0 % 18446744073709551616) (show (n : Int) ≠ 0 by omega)
  have h3 := Int.emod_lt_of_pos (at0 % 18446744073709551616) hn
  refine ⟨(at0 % 18446744073709551616 % (n : Int)).toNat, by omega, ?_⟩
  unfold wrap64
  omega
end Go.Proofs.YtfadjgaledddjaaGreatDoor

/- What a call keeps; small laws on numbers and lists. -/
namespace Go.Proofs.YtfadjgaledddjaaGreatDoor
open Go.RowKit
set_option linter.unusedVariables false
theorem w64_small {x : Int} (h1 : -9223372036854775808 ≤ x) (h2 : x ≤ 9223372036854775807) : wrap64 x = x := by unfold wrap64; omega
theorem w64_nat {x : Int} {k : Nat} (h : x = (k : Int)) (hk : k ≤ 9223372036854775807) : wrap64 x = (k : Int) := by rw [h]; exact w64_small (by omega) (by omega)
def KO (w w' : World) : Prop := Below w.heap.size w w'
theorem KO.refl (w : World) : KO w w := Below.refl _ _
theorem KO.drew {w w' : World} (h : KO w w') : KO w w'.drew := Below.drew h
theorem KO.alloc {w w' : World} (h : KO w w') (o : Obj) : KO w (w'.alloc o) := Below.alloc h (Below.size h) o
theorem KO.on {w a b : World} (h : KO w a) (k : Below a.heap.size a b) : KO w b := Below.trans h (k.mono (Below.size h))
theorem take_snoc' {α : Type} (l : List α) (k : Nat) (x : α) (h : l[k]? = some x) : l.take (k + 1) = l.take k ++ [x] := by
  obtain ⟨hk, hx⟩ := List.getElem?_eq_some_iff.1 h
  rw [List.take_succ_eq_append_getElem hk, hx]
theorem prefix_at {α : Type} {pre xs : List α} {x : α} (h : pre ++ [x] <+: xs) : xs[pre.length]? = some x ∧ pre = xs.take pre.length := by
  obtain ⟨t, rfl⟩ := h
  constructor
  · simp
  · simp
theorem prefix_take {α : Type} (xs : List α) (k : Nat) : xs.take k <+: xs := List.take_prefix k xs
end Go.Proofs.YtfadjgaledddjaaGreatDoor

/- 'append([]T{}, l...)': a copy of a list, as the laws make it. -/
namespace Go.Proofs.YtfadjgaledddjaaGreatDoor
open Go.RowKit
set_option linter.unusedVariables false
/-- An append of a whole list to what the call owns: the list is nil or not. -/
theorem wp_append_row {P : Program} (w : World) {o : Oper} {a : Act} {K : Act → World → Prop} {Q : Exit → Act → World → Prop} (s x : Operand) (t : TypeId)
    (ho : o.op = .call { callee := .builtin .append, args := #[s, x], argTypes := #[t, t] })
    (base : Nat) (e : TypeId) (i : TypeInfo) (z : Value) (bytes : Nat) (ht : P.underlying t = some (.slice e)) (hi : P.info? e = some i) (hz : i.zero = some z)
    (hsize : i.size = 1) (hby : i.bytes = bytes) (hzs : z.cells.size = 1)
    (v : Value) (n : Nat) (xs : List Value) (hs : a.eval s = v) (hown : w.ownsRow base e 1 v n xs)
    (k : IntKind) (ao : Option Addr) (m c : Nat) (zs : List Int) (hx : a.eval x = .slice ao m c) (hrow : Row k w ao m c zs)
    (hbytes : (n + m) * bytes ≤ 140737488355328) (hb1 : 1 ≤ bytes) (hbase : base ≤ w.heap.size)
    (h : ∀ v' w', w'.ownsRow base e 1 v' (n + m) (xs ++ zs.map (Value.int k)) → Below base w w' → K (a.put o.dst v') w') : o.wp P a w K Q := by
  have h63 : n + m ≤ maxLen := by
    have : (n + m) * 1 ≤ (n + m) * bytes := Nat.mul_le_mul_left _ hb1
    unfold maxLen; omega
  have hbel : ∀ w', w.grownBy w' v.ownBlock → Below base w w' := fun w' hg => (Below.refl base w).grown hg hbase (fun j hj => (hown.lt j hj).1)
  cases ao with
  | none =>
    have hc := hrow.nil rfl
    have hm : m = 0 := by have := hrow.le; omega
    subst hc hm
    have hzs0 : zs = [] := List.length_eq_zero_iff.1 hrow.len
    subst hzs0
    have hrun := run_append_owned_none (P := P) (w := w) base t o.type e i 1 ht hi v n xs hown
    have hK := h v w (by simpa using hown) (Below.refl _ _)
    unfold Oper.wp
    simp [execOp, ho, resolve, invoke, builtin, hs, hx, hrun, Result.andThen]
    exact hK
  | some ad =>
    refine wp_append_own w s x t ho base e i z 1 bytes ht hi hz hsize hby hzs (by decide) v n xs hs hown ad m c (zs.map (Value.int k)) hx (by simp [hrow.len]) ?_ (ints_oneCell k zs) h63 hbytes hbase (fun v' w' h1 h2 _ => h v' w' h1 (hbel w' h2))
    intro j u hj
    have hjl : j < zs.length := by
      have := (List.getElem?_eq_some_iff.1 hj).1
      simpa using this
    have hl := hrow.len
    obtain ⟨b, off, e1, _, hc⟩ := hrow.cells (by omega)
    simp only [Option.some.injEq] at e1
    subst e1
    have hadd : (⟨b, off, none⟩ : Addr).add j = ⟨b, off + j, none⟩ := by unfold Addr.add; split <;> simp_all
    rw [hadd, hc j hjl]
    rw [List.getElem?_map, List.getElem?_eq_getElem hjl] at hj
    simp only [Option.map_some, Option.some.injEq] at hj
    rw [← hj]
    simp [List.getD, List.getElem?_eq_getElem hjl]
theorem wpList_append_row {P : Program} (w : World) {ops : Array Oper} {rest : List Oper} {o : Oper} {a : Act} {Q : Exit → Act → World → Prop} (hw : Region.wanted o (yielded ops a.tmps) = true) (s x : Operand) (t : TypeId)
    (ho : o.op = .call { callee := .builtin .append, args := #[s, x], argTypes := #[t, t] })
    (base : Nat) (e : TypeId) (i : TypeInfo) (z : Value) (bytes : Nat) (ht : P.underlying t = some (.slice e)) (hi : P.info? e = some i) (hz : i.zero = some z)
    (hsize : i.size = 1) (hby : i.bytes = bytes) (hzs : z.cells.size = 1)
    (v : Value) (n : Nat) (xs : List Value) (hs : a.eval s = v) (hown : w.ownsRow base e 1 v n xs)
    (k : IntKind) (ao : Option Addr) (m c : Nat) (zs : List Int) (hx : a.eval x = .slice ao m c) (hrow : Row k w ao m c zs)
    (hbytes : (n + m) * bytes ≤ 140737488355328) (hb1 : 1 ≤ bytes) (hbase : base ≤ w.heap.size)
    (h : ∀ v' w', w'.ownsRow base e 1 v' (n + m) (xs ++ zs.map (Value.int k)) → Below base w w' → wpList P ops Q rest (a.put o.dst v') w') : wpList P ops Q (o :: rest) a w :=
  BigFrame.wpList_want hw fun K hK => wp_append_row w s x t ho base e i z bytes ht hi hz hsize hby hzs v n xs hs hown k ao m c zs hx hrow hbytes hb1 hbase fun v' w' h1 h2 => hK _ _ (h v' w' h1 h2)
/-- The same at a step of a region that draws its order. -/
theorem step_append_row {P : Program} (w : World) {ops : Array Oper} {o : Oper} {a : Act} {K : Act → World → Prop} {Q : Exit → Act → World → Prop} {E : Prop} (hgd : o.guard = none) (s x : Operand) (t : TypeId)
    (ho : o.op = .call { callee := .builtin .append, args := #[s, x], argTypes := #[t, t] })
    (base : Nat) (e : TypeId) (i : TypeInfo) (z : Value) (bytes : Nat) (ht : P.underlying t = some (.slice e)) (hi : P.info? e = some i) (hz : i.zero = some z)
    (hsize : i.size = 1) (hby : i.bytes = bytes) (hzs : z.cells.size = 1)
    (v : Value) (n : Nat) (xs : List Value) (hs : a.eval s = v) (hown : w.ownsRow base e 1 v n xs)
    (k : IntKind) (ao : Option Addr) (m c : Nat) (zs : List Int) (hx : a.eval x = .slice ao m c) (hrow : Row k w ao m c zs)
    (hbytes : (n + m) * bytes ≤ 140737488355328) (hb1 : 1 ≤ bytes) (hbase : base ≤ w.heap.size)
    (h : ∀ v' w', w'.ownsRow base e 1 v' (n + m) (xs ++ zs.map (Value.int k)) → Below base w w' → K (a.put o.dst v') w') :
    if Region.wanted o (yielded ops a.tmps) = true then Oper.wp P o a w K Q else E := by
  have hw : Region.wanted o (yielded ops a.tmps) = true := by simp [Region.wanted, hgd]
  rw [if_pos hw]
  exact wp_append_row w s x t ho base e i z bytes ht hi hz hsize hby hzs v n xs hs hown k ao m c zs hx hrow hbytes hb1 hbase h
end Go.Proofs.YtfadjgaledddjaaGreatDoor

/- Pieces of slices: what they are, and that they are rows. -/
namespace Go.Proofs.YtfadjgaledddjaaGreatDoor
open Go.RowKit
set_option linter.unusedVariables false
/-- Where a piece begins. -/
def tl (ao : Option Addr) (cap j : Nat) : Option Addr := if cap = j then ao else ao.map (·.add j)
theorem Row.drop {k : IntKind} {w : World} {ao : Option Addr} {n cap : Nat} {xs : List Int} (h : Row k w ao n cap xs) {j : Nat} (hj : j ≤ n) : Row k w (tl ao cap j) (n - j) (cap - j) (xs.drop j) := by
  have hle := h.le
  refine ⟨by rw [List.length_drop, h.len], by omega, by have := h.max; omega, fun h0 => ?_, fun hn => ?_⟩
  · obtain ⟨b, off, rfl, hb, hc⟩ := h.cells (by omega)
    refine ⟨b, off + j, ?_, hb, hc.drop j⟩
    unfold tl
    rw [if_neg (by omega)]
    simp only [Option.map_some, Option.some.injEq]
    unfold Addr.add
    split <;> simp_all
  · have : ao = none := by
      unfold tl at hn
      split at hn
      · exact hn
      · simpa using hn
    have := h.nil this
    omega
theorem run_from {P : Program} {t e : TypeId} {i : TypeInfo} (ht : P.underlying t = some (.slice e)) (hi : P.info? e = some i) (hc : P.cellsOf e = 1) (ao : Option Addr) (n cap j : Nat) (hj : j ≤ n) (w : World) :
    (Instr.slice t (.slice ao n cap) (some (.int .i64 (j : Int))) none none).run P w = .ok (.slice (tl ao cap j) (n - j) (cap - j)) w := by
  have e1 : (0 : Int) ≤ (j : Int) ∧ (j : Int) ≤ (n : Int) := by omega
  simp [Instr.slice, run_underlying ht, Instr.sliceBounds, go_sem, e1, run_sizeOf w hi, hc, tl]
theorem run_upto {P : Program} {t e : TypeId} {i : TypeInfo} (ht : P.underlying t = some (.slice e)) (hi : P.info? e = some i) (hc : P.cellsOf e = 1) (ao : Option Addr) (n cap j : Nat) (hj : j ≤ cap) (w : World) :
    (Instr.slice t (.slice ao n cap) none (some (.int .i64 (j : Int))) none).run P w = .ok (.slice ao j cap) w := by
  have e1 : (0 : Int) ≤ (j : Int) ∧ (j : Int) ≤ (cap : Int) := by omega
  simp [Instr.slice, run_underlying ht, Instr.sliceBounds, go_sem, e1, run_sizeOf w hi, hc]
end Go.Proofs.YtfadjgaledddjaaGreatDoor

/- Rows of ints: their type, what a call owns of them, like ones. -/
namespace Go.Proofs.YtfadjgaledddjaaGreatDoor
open Go.RowKit
set_option linter.unusedVariables false
set_option maxHeartbeats 1000000
set_option maxRecDepth 100000
theorem infoInt : (Tryz.prog.info? 3).map (fun i => (i.zero, i.size, i.bytes)) = some (some (.int .i64 0), 1, 8) := by kernel_rfl
theorem cellsInt : Tryz.prog.cellsOf 3 = 1 := by kernel_rfl
theorem owns_keep {w w' : World} {base e size n cap g : Nat} {xs : List Value} (h : w.ownsRow base e size (.slice (some ⟨g, 0, none⟩) n cap) n xs) {B : Nat} (hb : Below B w w') (hg : g < B) : w'.ownsRow base e size (.slice (some ⟨g, 0, none⟩) n cap) n xs := by
  refine ⟨h.1, ?_⟩
  rcases h.2 with ⟨h0, _⟩ | ⟨g', cap', cur, hv, hbs, hh, rest⟩
  · cases h0
  · cases hv
    exact .inr ⟨g, cap, cur, rfl, hbs, (hb.block g hg).trans hh, rest⟩
theorem owns_form {w : World} {base e size n : Nat} {v : Value} {xs : List Value} (h : w.ownsRow base e size v n xs) : ∃ a cap, v = .slice a n cap ∧ n ≤ cap := by
  rcases h.2 with ⟨rfl, rfl⟩ | ⟨g, cap, cur, rfl, _, _, hle, _⟩
  · exact ⟨none, 0, rfl, Nat.le_refl _⟩
  · exact ⟨_, cap, rfl, hle⟩
theorem owns_pos {w : World} {base e size n : Nat} {v : Value} {xs : List Value} (h : w.ownsRow base e size v n xs) (hn : 0 < n) : ∃ g cap, v = .slice (some ⟨g, 0, none⟩) n cap ∧ base ≤ g ∧ n ≤ cap := by
  rcases h.2 with ⟨rfl, rfl⟩ | ⟨g, cap, cur, rfl, hb, _, hle, _⟩
  · omega
  · exact ⟨g, cap, rfl, hb, hle⟩
theorem row_one (w : World) (s : Nat) (hs : w.heap.size = s) (k : Int) : Row .i64 (w.alloc (.cells #[.int .i64 k] 3)) (some ⟨s, 0, none⟩) 1 1 [k] := by
  subst hs; exact row_lit .i64 w [k] 3 (by unfold maxLen; simp)
theorem size_set (w : World) (p : Addr) (v : Value) : (w.setCell p v).heap.size = w.heap.size := by simp [World.setCell]
theorem row_owned {w : World} {base n cap g : Nat} {zs : List Int} (h : w.ownsRow base 3 1 (.slice (some ⟨g, 0, none⟩) n cap) n (zs.map (Value.int .i64))) : Row .i64 w (some ⟨g, 0, none⟩) n cap zs := by
  obtain ⟨ao, c, e, hr⟩ := row_of_owns h
  simp only [Value.slice.injEq] at e
  obtain ⟨rfl, _, rfl⟩ := e
  exact hr
theorem rowAt {w w' : World} {b off n cap : Nat} {zs : List Int} (h : Row .i64 w (some ⟨b, off, none⟩) n cap zs) (hk : KO w w') (j : Nat) (hj : j < n) : w'.cell? ⟨b, off + j, none⟩ = some (.int .i64 (zs.getD j 0)) := by
  obtain ⟨b2, o2, e, hb, hc⟩ := h.cells (by omega)
  simp only [Option.some.injEq, Addr.mk.injEq, and_true] at e
  obtain ⟨rfl, rfl⟩ := e
  exact (Below.cell hk (by exact hb)).trans (hc j (by rw [h.len]; exact hj))
theorem owns_block {w : World} {base g n : Nat} {cur : Array Value} {zs : List Int} (hg : w.heap[g]? = some (.cells cur 3 (0, 0))) (hl : cur.toList = zs.map (Value.int .i64)) (hn : zs.length = n) (hm : n ≤ maxLen) (hb : base ≤ g) :
    w.ownsRow base 3 1 (.slice (some ⟨g, 0, none⟩) n n) n (zs.map (Value.int .i64)) := by
  have hs : cur.size = n := by rw [← Array.length_toList, hl, List.length_map, hn]
  refine ⟨by rw [List.length_map, hn, Nat.mul_one], .inr ⟨g, n, cur, rfl, hb, hg, Nat.le_refl _, hm, by rw [hs, Nat.mul_one], ?_⟩⟩
  rw [Nat.mul_one, hl, List.take_of_length_le (by rw [List.length_map, hn]; exact Nat.le_refl _)]
theorem ownAt {w w' : World} {base n cap g : Nat} {zs : List Int} (h : w.ownsRow base 3 1 (.slice (some ⟨g, 0, none⟩) n cap) n (zs.map (Value.int .i64))) (hk : KO w w') (j : Nat) (hj : j < n) : w'.cell? ⟨g, j, none⟩ = some (.int .i64 (zs.getD j 0)) :=
  (Below.cell hk (by exact (h.lt g rfl).2)).trans (owns_cell h j hj)
theorem getD_set' (l : List Int) (i j : Nat) (y : Int) (hi : i < l.length) : (l.set i y).getD j 0 = if i = j then y else l.getD j 0 := by
  by_cases h : i = j
  · subst h; simp [List.getD, hi]
  · rw [if_neg h]; simp [List.getD, List.getElem?_set_ne h]
theorem meas_n0 (n k : Nat) (h : k < n) : n - (intOf (.int .i64 ((k : Int) + 1))).toNat < n - (intOf (.int .i64 (k : Int))).toNat := by simp [intOf]; omega
theorem run_mid {P : Program} {t e : TypeId} {i : TypeInfo} (ht : P.underlying t = some (.slice e)) (hi : P.info? e = some i) (hc : P.cellsOf e = 1) (ao : Option Addr) (n cap j k : Nat) (hj : j ≤ k) (hk : k ≤ cap) (w : World) :
    (Instr.slice t (.slice ao n cap) (some (.int .i64 (j : Int))) (some (.int .i64 (k : Int))) none).run P w = .ok (.slice (tl ao cap j) (k - j) (cap - j)) w := by
  have e1 : (0 : Int) ≤ (j : Int) ∧ (j : Int) ≤ (k : Int) := by omega
  have e2 : (0 : Int) ≤ (k : Int) ∧ (k : Int) ≤ (cap : Int) := by omega
  simp [Instr.slice, run_underlying ht, Instr.sliceBounds, go_sem, e1, e2, run_sizeOf w hi, hc, tl]
  intro h; omega
theorem ints_yes (a0 a1 : Option Addr) (n c0 c1 : Nat) (l : List Int) (w : World) (h0 : Row .i64 w a0 n c0 l) (h1 : Row .i64 w a1 n c1 l) :
    Calls Tryz.prog 12 #[.slice a0 n c0, .slice a1 n c1] w fun e w' => e = .returned (.bool true) ∧ ∃ k, w' = w.drewN k := by
  have hx := h0.le
  have hm := h0.max
  unfold maxLen at hm
  have hl := h0.len
  have H0 := hide h0
  have H1 := hide h1
  have HL := hide hl
  clear h0 h1 hl
  go_enter Tryz.func12, Tryz.ntmps12
  go_wp2
  go_loopw [5] (fun i wr => ∃ k nq : Nat, k ≤ n ∧ i = .int .i64 k ∧ wr = w.drewN nq) (fun i _ => n - (intOf i).toNat)
  case atStart => exact ⟨0, 0, Nat.zero_le _, rfl, rfl⟩
  case round =>
    obtain ⟨k, nq, hk, rfl, rfl⟩ := hrel
    by_cases hlt : k < n
    · obtain ⟨b0, o0, rfl, _, hc0⟩ := H0.out.cells (by omega)
      obtain ⟨b1, o1, rfl, _, hc1⟩ := H1.out.cells (by omega)
      have g0 := hc0 k (by have := HL.out; omega)
      have g1 := hc1 k (by have := HL.out; omega)
      clear hc0 hc1
      generalize l.getD k 0 = x at *
      have hlt' : (k : Int) < (n : Int) := by omega
      go_wp2
      go_quiet (fail)
      go_wp2
      go_roundw
      case rel => exact ⟨k + 1, _, by omega, by go_num, by first | rfl | exact World.drewN_drewN _ _ _⟩
      case measure => simp [intOf]; omega
    · go_wp2
      go_ret
      exact ⟨rfl, _, rfl⟩
theorem below_drewN (w : World) (k : Nat) : Below w.heap.size w (w.drewN k) := by have h := Below.refl w.heap.size w; exact ⟨h.os, h.tape, h.output, h.size, h.block⟩
theorem below_of_drewN {w w' : World} (h : ∃ k, w' = w.drewN k) : Below w.heap.size w w' := by obtain ⟨k, rfl⟩ := h; exact below_drewN w k
end Go.Proofs.YtfadjgaledddjaaGreatDoor

/- A row of the caller's own that is written; 'copy' of a whole row. -/
namespace Go.Proofs.YtfadjgaledddjaaGreatDoor
open Go.RowKit
set_option linter.unusedVariables false
set_option maxHeartbeats 1000000
set_option maxRecDepth 100000
/-- A row of the caller's own that is written. -/
structure OW (base g n cap : Nat) (zs : List Int) (w0 w : World) : Prop where
  own : w.ownsRow base 3 1 (.slice (some ⟨g, 0, none⟩) n cap) n (zs.map (Value.int .i64))
  bel : Below base w0 w
theorem OW.len {base g n cap : Nat} {zs : List Int} {w0 w : World} (h : OW base g n cap zs w0 w) : zs.length = n := by have := h.own.1; simpa using this
theorem OW.set {base g n cap : Nat} {zs : List Int} {w0 w : World} (h : OW base g n cap zs w0 w) (k : Nat) (y : Int) : OW base g n cap (zs.set k y) w0 (w.setCell ⟨g, k, none⟩ (.int .i64 y)) :=
  ⟨owns_set h.own k y, h.bel.setCell (p := ⟨g, k, none⟩) (h.own.lt g rfl).1 _⟩
theorem OW.drew {base g n cap : Nat} {zs : List Int} {w0 w : World} (h : OW base g n cap zs w0 w) : OW base g n cap zs w0 w.drew := ⟨h.own.drew, h.bel.drew⟩
theorem OW.drewN {base g n cap : Nat} {zs : List Int} {w0 w : World} (h : OW base g n cap zs w0 w) (k : Nat) : OW base g n cap zs w0 (w.drewN k) := by
  have hb := h.bel
  exact ⟨⟨h.own.1, h.own.2⟩, ⟨hb.os, hb.tape, hb.output, hb.size, hb.block⟩⟩
theorem OW.cell {base g n cap : Nat} {zs : List Int} {w0 w : World} (h : OW base g n cap zs w0 w) {k : Nat} (hk : k < n) : w.cell? ⟨g, k, none⟩ = some (.int .i64 (zs.getD k 0)) := owns_cell h.own k hk
theorem OW.row {base g n cap : Nat} {zs : List Int} {w0 w : World} (h : OW base g n cap zs w0 w) : Row .i64 w (some ⟨g, 0, none⟩) n cap zs := row_owned h.own
theorem below_setRow' {B : Nat} {w w' : World} (h : Below B w w') {g : Nat} (hg : B ≤ g) (cs : Array Value) : Below B w (w'.setRow g cs) :=
  ⟨h.os, h.tape, h.output, by rw [setRow_size]; exact h.size, fun i hi => by rw [setRow_other _ _ _ _ (by omega)]; exact h.block i hi⟩
theorem block_owns {w : World} {base g n : Nat} {xs : List Value} (h : w.ownsRow base 3 1 (.slice (some ⟨g, 0, none⟩) n n) n xs) : w.heap[g]? = some (.cells xs.toArray 3 (0, 0)) := by
  rcases h.2 with ⟨h0, _⟩ | ⟨g', cap', cur, hv, hbs, hh, hle, hm, hsz, ht⟩
  · cases h0
  · cases hv
    rw [hh]
    have : cur.toList.take (n * 1) = cur.toList := List.take_of_length_le (by rw [Array.length_toList, hsz]; exact Nat.le_refl _)
    rw [this] at ht
    rw [← ht]
theorem splice_all (xs cs : List Value) (h : xs.length = cs.length) : splice xs 0 cs = cs := by
  unfold splice
  simp [← h]
theorem sizeInt : (Tryz.prog.info? 3).map (·.size) = some 1 := by kernel_rfl
/-- An argument's cells, for a copy. -/
theorem Row.src {w : World} {ao : Option Addr} {n cap : Nat} {zs : List Int} (h : Row .i64 w ao n cap zs) (h0 : 0 < n) : ∃ ad, ao = some ad ∧ ∀ j v, (zs.map (Value.int .i64))[j]? = some v → w.cell? (ad.add j) = some v := by
  obtain ⟨b, off, rfl, hb, hc⟩ := h.cells h0
  refine ⟨_, rfl, fun j v hj => ?_⟩
  have hjl : j < zs.length := by
    have := (List.getElem?_eq_some_iff.1 hj).1
    simpa using this
  have hadd : (⟨b, off, none⟩ : Addr).add j = ⟨b, off + j, none⟩ := by unfold Addr.add; split <;> simp_all
  rw [hadd, hc j hjl]
  rw [List.getElem?_map, List.getElem?_eq_getElem hjl] at hj
  simp only [Option.map_some, Option.some.injEq] at hj
  rw [← hj]
  simp [List.getD, List.getElem?_eq_getElem hjl]
/-- 'copy' of a whole row into one that is as long. -/
theorem run_copy_ints {w1 w0 : World} {B g n cap : Nat} {ao : Option Addr} {c : List Int} {cur : List Value} (h : Row .i64 w1 ao n cap c) (hg : w1.heap[g]? = some (.cells cur.toArray 3 (0, 0))) (hl : cur.length = n) (hb : Below B w0 w1) (hB : B ≤ g) :
    ∃ w2, (Builtin.copy_ #[24, 24] 3 #[.slice (some ⟨g, 0, none⟩) n n, .slice ao n cap]).run Tryz.prog w1 = .ok (.int .i64 (n : Int)) w2 ∧ w2.heap[g]? = some (.cells (c.map (Value.int .i64)).toArray 3 (0, 0)) ∧ Below B w0 w2 := by
  have hcl : (c.map (Value.int .i64)).length = n := by rw [List.length_map, h.len]
  by_cases h0 : n = 0
  · have hrun := run_copy_none (P := Tryz.prog) w1 24 24 3 3 (some ⟨g, 0, none⟩) ao n n n cap Tryz.underlying24 sizeInt (by rw [h0]; rfl)
    refine ⟨w1, by rw [hrun, h0]; rfl, ?_, hb⟩
    have e1 : cur = [] := List.eq_nil_of_length_eq_zero (by omega)
    have e2 : c = [] := List.eq_nil_of_length_eq_zero (by rw [h.len]; exact h0)
    rw [hg, e1, e2]; rfl
  · obtain ⟨ad, rfl, hsrc⟩ := h.src (by omega)
    have hrun := run_copy_row (P := Tryz.prog) w1 24 24 3 3 g 0 n n ad n cap cur.toArray 3 (c.map (Value.int .i64)) Tryz.underlying24 sizeInt hg (by rw [hcl]; exact (Nat.min_self n).symm) hsrc (by rw [hcl, List.size_toArray]; omega) (ints_oneCell .i64 c)
    refine ⟨_, by rw [hrun, hcl]; rfl, ?_, below_setRow' hb hB _⟩
    rw [setRow_heap w1 g _ _ _ _ hg]
    have := splice_all cur (c.map (Value.int .i64)) (by rw [hcl, hl])
    unfold splice at this
    rw [hcl] at this
    rw [List.append_assoc, this]
end Go.Proofs.YtfadjgaledddjaaGreatDoor

/- Two rows of numbers that a call makes beside one another, in whatever order: 'append(append([]int{}, p...), q...)' twice in one statement that draws its order. -/
namespace Go.Proofs.YtfadjgaledddjaaGreatDoor
open Go.RowKit
set_option linter.unusedVariables false
structure J2 (e : TypeId) (w0 w : World) (va : Value) (na : Nat) (xa : List Int) (vb : Value) (nb : Nat) (xb : List Int) : Prop where
  oa : w.ownsRow w0.heap.size e 1 va na (xa.map (Value.int .i64))
  ob : w.ownsRow w0.heap.size e 1 vb nb (xb.map (Value.int .i64))
  ne : ∀ g, va.ownBlock = some g → ¬ vb.ownBlock = some g
  bel : Below w0.heap.size w0 w
section
variable {e : TypeId} {w0 w : World} {va : Value} {na : Nat} {xa : List Int} {vb : Value} {nb : Nat} {xb : List Int}
theorem J2.symm (h : J2 e w0 w va na xa vb nb xb) : J2 e w0 w vb nb xb va na xa := ⟨h.ob, h.oa, fun g h1 h2 => h.ne g h2 h1, h.bel⟩
theorem J2.below (h : J2 e w0 w va na xa vb nb xb) {w' : World} (hb : Below w.heap.size w w') : J2 e w0 w' va na xa vb nb xb := ⟨owns_below h.oa hb, owns_below h.ob hb, h.ne, KO.on h.bel hb⟩
theorem J2.begin (w : World) : J2 e w w (.slice none 0 0) 0 [] (.slice none 0 0) 0 [] := ⟨World.ownsRow_nil _ _ _ _, World.ownsRow_nil _ _ _ _, fun g h => by simp [Value.ownBlock] at h, Below.refl _ _⟩
/-- Behind an append to one of them. -/
theorem J2.step (h : J2 e w0 w va na xa vb nb xb) {w' : World} {v' : Value} {n' : Nat} {xs : List Int} (ho : w'.ownsRow w0.heap.size e 1 v' n' (xs.map (Value.int .i64))) (hg : w.grownBy w' va.ownBlock) (hb : v'.ownBlock = va.ownBlock ∨ v'.ownBlock = some w.heap.size) : J2 e w0 w' v' n' xs vb nb xb := by
  refine ⟨ho, ?_, ?_, ?_⟩
  · refine h.ob.kept hg ?_
    cases hv : vb.ownBlock with
    | none => exact .inl rfl
    | some g => exact .inr (fun h1 => h.ne g h1.symm hv)
  · intro g h1 h2
    rcases hb with hb | hb
    · rw [hb] at h1; exact h.ne g h1 h2
    · rw [hb] at h1
      have := (h.ob.lt g h2).2
      simp at h1
      omega
  · exact h.bel.grown hg h.bel.size (fun j hj => (h.oa.lt j hj).1)
end
/-- An append, and where its row lies. -/
theorem run_append_at {P : Program} (w : World) (base : Nat) (t ty e : TypeId) (i : TypeInfo) (z : Value) (ht : P.underlying t = some (.slice e)) (hi : P.info? e = some i) (hz : i.zero = some z) (hsize : i.size = 1) (hby : i.bytes = 8) (hzs : z.cells.size = 1)
    (g n cap : Nat) (xs : List Int) (hown : w.ownsRow base e 1 (.slice (some ⟨g, 0, none⟩) n cap) n (xs.map (Value.int .i64)))
    (ad : Addr) (m c : Nat) (zs : List Int) (hrow : Row .i64 w (some ad) m c zs) (hm : 0 < m) (hn : n + m ≤ 100000) (hbase : base ≤ w.heap.size) :
    ∃ v' w', (Builtin.append_ #[t, t] ty #[.slice (some ⟨g, 0, none⟩) n cap, .slice (some ad) m c]).run P w = .ok v' w' ∧ w'.ownsRow base e 1 v' (n + m) ((xs ++ zs).map (Value.int .i64)) ∧ w.grownBy w' (some g) ∧ (v'.ownBlock = some g ∨ v'.ownBlock = some w.heap.size) := by
  have hnews : ∀ j u, (zs.map (Value.int .i64))[j]? = some u → w.cell? (ad.add j) = some u := by
    intro j u hj
    have hjl : j < zs.length := by
      have := (List.getElem?_eq_some_iff.1 hj).1
      simpa using this
    have hl := hrow.len
    obtain ⟨b, off, e1, _, hc⟩ := hrow.cells (by omega)
    simp only [Option.some.injEq] at e1
    subst e1
    have hadd : (⟨b, off, none⟩ : Addr).add j = ⟨b, off + j, none⟩ := by unfold Addr.add; split <;> simp_all
    rw [hadd, hc j hjl]
    rw [List.getElem?_map, List.getElem?_eq_getElem hjl] at hj
    simp only [Option.map_some, Option.some.injEq] at hj
    rw [← hj]
    simp [List.getD, List.getElem?_eq_getElem hjl]
  have hlen : (zs.map (Value.int .i64)).length = m * 1 := by simp [hrow.len]
  obtain ⟨v', w', hr, h2, h3, _⟩ := run_append_own (P := P) w base t ty e i z 1 8 ht hi hz hsize hby hzs (by decide) (.slice (some ⟨g, 0, none⟩) n cap) n _ hown ad m c (zs.map (Value.int .i64)) hlen hnews (ints_oneCell .i64 zs) (by unfold maxLen; omega) (by omega) hbase
  rw [← List.map_append] at h2
  refine ⟨v', w', hr, h2, h3, ?_⟩
  have ho := hown
  rcases ho.2 with ⟨h0, _⟩ | ⟨g', cap', cur, hv, hbg, hg, hnc, hcm, hcs, htake⟩
  · cases h0
  · cases hv
    by_cases hroom : n + m ≤ cap
    · have hfit : n * i.size + (zs.map (Value.int .i64)).length ≤ cur.size := by rw [hsize, hcs]; simp [hrow.len]; omega
      have hq := run_append_room (P := P) w t ty e i ht hi g n cap cur hg ad m c (zs.map (Value.int .i64)) (by rw [hsize]; exact hlen) hnews (ints_oneCell .i64 zs) hroom hfit
      rw [hq] at hr
      simp only [Result.ok.injEq] at hr
      left
      rw [← hr.1]
      rfl
    · have holds : ∀ j x, (xs.map (Value.int .i64))[j]? = some x → w.cell? ((⟨g, 0, none⟩ : Addr).add j) = some x := hown.cells (g := g) rfl
      have hq := run_append_grow (P := P) w t ty e i z ht hi hz ⟨g, 0, none⟩ n cap (xs.map (Value.int .i64)) (by rw [hsize]; exact hown.1) holds ad m c (zs.map (Value.int .i64)) (by rw [hsize]; exact hlen) hnews (by omega) (by omega) (growslice_fits (by omega) (by rw [hby]; omega))
      rw [hq] at hr
      simp only [Result.ok.injEq] at hr
      right
      rw [← hr.1]
      rfl
/-- An append to a slice without room, of whose block nothing is known. -/
theorem run_append_first {P : Program} (w : World) (t ty e : TypeId) (i : TypeInfo) (z : Value) (ht : P.underlying t = some (.slice e)) (hi : P.info? e = some i) (hz : i.zero = some z) (hsize : i.size = 1) (hby : i.bytes = 8) (hzs : z.cells.size = 1)
    (ag : Addr) (ad : Addr) (m c : Nat) (zs : List Int) (hrow : Row .i64 w (some ad) m c zs) (hm : 0 < m) (hn : m ≤ 100000) (base : Nat) (hbase : base ≤ w.heap.size) :
    ∃ v' w', (Builtin.append_ #[t, t] ty #[.slice (some ag) 0 0, .slice (some ad) m c]).run P w = .ok v' w' ∧ w'.ownsRow base e 1 v' m (zs.map (Value.int .i64)) ∧ w.grownBy w' none ∧ v'.ownBlock = some w.heap.size := by
  have hnews : ∀ j u, (zs.map (Value.int .i64))[j]? = some u → w.cell? (ad.add j) = some u := by
    intro j u hj
    have hjl : j < zs.length := by
      have := (List.getElem?_eq_some_iff.1 hj).1
      simpa using this
    have hl := hrow.len
    obtain ⟨b, off, e1, _, hc⟩ := hrow.cells (by omega)
    simp only [Option.some.injEq] at e1
    subst e1
    have hadd : (⟨b, off, none⟩ : Addr).add j = ⟨b, off + j, none⟩ := by unfold Addr.add; split <;> simp_all
    rw [hadd, hc j hjl]
    rw [List.getElem?_map, List.getElem?_eq_getElem hjl] at hj
    simp only [Option.map_some, Option.some.injEq] at hj
    rw [← hj]
    simp [List.getD, List.getElem?_eq_getElem hjl]
  have hlen : (zs.map (Value.int .i64)).length = m * 1 := by simp [hrow.len]
  have hq := run_append_grow (P := P) w t ty e i z ht hi hz ag 0 0 [] (by simp) (by simp) ad m c (zs.map (Value.int .i64)) (by rw [hsize]; exact hlen) hnews (by omega) (by omega) (growslice_fits (by omega) (by rw [hby]; omega))
  have hge := grownCap_ge w (0 + m) 0 e
  have hml : grownCap w (0 + m) 0 e ≤ maxLen := grownCap_le_maxLen w (0 + m) 0 e (by unfold maxLen; omega)
  refine ⟨_, _, hq, ⟨by simp [hrow.len], .inr ⟨w.heap.size, grownCap w (0 + m) 0 e, _, by simp, hbase, heap_alloc_new w.drew _, by omega, hml, ?_, ?_⟩⟩, ⟨rfl, rfl, rfl, by simp, fun k hk _ => Below.heap_alloc w.drew _ k hk⟩, rfl⟩
  · simp only [Array.size_append, List.size_toArray, size_zeroCells, hzs, List.length_map, hrow.len, List.length_nil]
    omega
  · simp only [Array.toList_append, List.nil_append]
    rw [List.take_append_of_le_length (by simp [hrow.len])]
    rw [List.take_of_length_le (by simp [hrow.len])]
section
variable {P : Program} {ops : Array Oper} {o : Oper} {a : Act} {K : Act → World → Prop} {Q : Exit → Act → World → Prop} {E : Prop}
theorem step_first {e : TypeId} {w0 w : World} {vb : Value} {nb : Nat} {xb : List Int} (hJ : J2 e w0 w (.slice none 0 0) 0 [] vb nb xb) (hgd : o.guard = none) (s x : Operand) (t : TypeId)
    (ho : o.op = .call { callee := .builtin .append, args := #[s, x], argTypes := #[t, t] }) (i : TypeInfo) (z : Value) (ht : P.underlying t = some (.slice e)) (hi : P.info? e = some i) (hz : i.zero = some z) (hsize : i.size = 1) (hby : i.bytes = 8) (hzs : z.cells.size = 1)
    (ag ad : Addr) (hs : a.eval s = .slice (some ag) 0 0) (m c : Nat) (zs : List Int) (hx : a.eval x = .slice (some ad) m c) (hrow : Row .i64 w0 (some ad) m c zs) (hm : 0 < m) (hn : m ≤ 100000)
    (h : ∀ g cp w', J2 e w0 w' (.slice (some ⟨g, 0, none⟩) m cp) m zs vb nb xb → K (a.put o.dst (.slice (some ⟨g, 0, none⟩) m cp)) w') :
    if Region.wanted o (yielded ops a.tmps) = true then Oper.wp P o a w K Q else E := by
  have hw : Region.wanted o (yielded ops a.tmps) = true := by simp [Region.wanted, hgd]
  rw [if_pos hw]
  obtain ⟨v', w', hr, h2, h3, h4⟩ := run_append_first (P := P) w t o.type e i z ht hi hz hsize hby hzs ag ad m c zs (hrow.below hJ.bel) hm hn w0.heap.size hJ.bel.size
  have hj : J2 e w0 w' v' m zs vb nb xb := hJ.step h2 h3 (.inr h4)
  rcases h2.2 with ⟨_, h0⟩ | ⟨g, cp, cur, rfl, _⟩
  · omega
  unfold Oper.wp execOp
  simp only [ho, resolve, invoke, builtin, Sem.run_bind, Sem.run_pure, Result.andThen_ok, List.map_toArray, List.map_cons, List.map_nil, hs, hx, hr]
  exact h g cp w' hj
theorem step_next {e : TypeId} {w0 w : World} {g n cap : Nat} {xa : List Int} {vb : Value} {nb : Nat} {xb : List Int} (hJ : J2 e w0 w (.slice (some ⟨g, 0, none⟩) n cap) n xa vb nb xb) (hgd : o.guard = none) (s x : Operand) (t : TypeId)
    (ho : o.op = .call { callee := .builtin .append, args := #[s, x], argTypes := #[t, t] }) (i : TypeInfo) (z : Value) (ht : P.underlying t = some (.slice e)) (hi : P.info? e = some i) (hz : i.zero = some z) (hsize : i.size = 1) (hby : i.bytes = 8) (hzs : z.cells.size = 1)
    (ad : Addr) (hs : a.eval s = .slice (some ⟨g, 0, none⟩) n cap) (m c : Nat) (zs : List Int) (hx : a.eval x = .slice (some ad) m c) (hrow : Row .i64 w0 (some ad) m c zs) (hm : 0 < m) (hn : n + m ≤ 100000)
    (h : ∀ g cp w', J2 e w0 w' (.slice (some ⟨g, 0, none⟩) (n + m) cp) (n + m) (xa ++ zs) vb nb xb → K (a.put o.dst (.slice (some ⟨g, 0, none⟩) (n + m) cp)) w') :
    if Region.wanted o (yielded ops a.tmps) = true then Oper.wp P o a w K Q else E := by
  have hw : Region.wanted o (yielded ops a.tmps) = true := by simp [Region.wanted, hgd]
  rw [if_pos hw]
  obtain ⟨v', w', hr, h2, h3, h4⟩ := run_append_at (P := P) w w0.heap.size t o.type e i z ht hi hz hsize hby hzs g n cap xa hJ.oa ad m c zs (hrow.below hJ.bel) hm hn hJ.bel.size
  have hj : J2 e w0 w' v' (n + m) (xa ++ zs) vb nb xb := hJ.step h2 h3 h4
  rcases h2.2 with ⟨_, h0⟩ | ⟨g', cp, cur, rfl, _⟩
  · omega
  unfold Oper.wp execOp
  simp only [ho, resolve, invoke, builtin, Sem.run_bind, Sem.run_pure, Result.andThen_ok, List.map_toArray, List.map_cons, List.map_nil, hs, hx, hr]
  exact h g' cp w' hj
end
end Go.Proofs.YtfadjgaledddjaaGreatDoor

/- Two rows of numbers that grow by one number a time. -/
namespace Go.Proofs.YtfadjgaledddjaaGreatDoor
open Go.RowKit
set_option linter.unusedVariables false
/-- Behind an append to one of them: its row is the one that it was, or a new one. -/
theorem J2.step' {e : TypeId} {w0 w : World} {va : Value} {na : Nat} {xa : List Int} {vb : Value} {nb : Nat} {xb : List Int} (h : J2 e w0 w va na xa vb nb xb) {w' : World} {v' : Value} {n' : Nat} {xs : List Int} (ho : w'.ownsRow w0.heap.size e 1 v' n' (xs.map (Value.int .i64))) (hg : w.grownBy w' va.ownBlock) (hb : v'.ownBlock = va.ownBlock ∨ ∃ g, v'.ownBlock = some g ∧ w.heap.size ≤ g) : J2 e w0 w' v' n' xs vb nb xb := by
  refine ⟨ho, ?_, ?_, ?_⟩
  · refine h.ob.kept hg ?_
    cases hv : vb.ownBlock with
    | none => exact .inl rfl
    | some g => exact .inr (fun h1 => h.ne g h1.symm hv)
  · intro g h1 h2
    rcases hb with hb | ⟨g', hb, hg'⟩
    · rw [hb] at h1; exact h.ne g h1 h2
    · rw [hb] at h1
      have := (h.ob.lt g h2).2
      simp at h1
      omega
  · exact h.bel.grown hg h.bel.size (fun j hj => (h.oa.lt j hj).1)
/-- One number more. -/
theorem run_append_j2 {P : Program} {e : TypeId} {w0 w : World} {va : Value} {na : Nat} {xa : List Int} {vb : Value} {nb : Nat} {xb : List Int} (hJ : J2 e w0 w va na xa vb nb xb) (t ty : TypeId) (i : TypeInfo) (z : Value) (ht : P.underlying t = some (.slice e)) (hi : P.info? e = some i) (hz : i.zero = some z) (hsize : i.size = 1) (hby : i.bytes = 8) (hzs : z.cells.size = 1)
    (ad : Addr) (y : Int) (hrow : Row .i64 w (some ad) 1 1 [y]) (hn : na ≤ 90000) :
    ∃ g cp w', (Builtin.append_ #[t, t] ty #[va, .slice (some ad) 1 1]).run P w = .ok (.slice (some ⟨g, 0, none⟩) (na + 1) cp) w' ∧ J2 e w0 w' (.slice (some ⟨g, 0, none⟩) (na + 1) cp) (na + 1) (xa ++ [y]) vb nb xb := by
  rcases hJ.oa.2 with ⟨rfl, rfl⟩ | ⟨g, cap, cur, rfl, _⟩
  · have hxa : xa = [] := by have := hJ.oa.1; simpa using this
    subst hxa
    have hnews : ∀ j u, ([y].map (Value.int .i64))[j]? = some u → w.cell? (ad.add j) = some u := by
      intro j u hj
      obtain ⟨b, off, e1, _, hc⟩ := hrow.cells (by omega)
      simp only [Option.some.injEq] at e1
      subst e1
      match j, hj with
      | 0, hj =>
        simp at hj
        subst hj
        have hadd : (⟨b, off, none⟩ : Addr).add 0 = ⟨b, off + 0, none⟩ := by unfold Addr.add; split <;> simp_all
        rw [hadd]
        exact hc 0 (by simp)
      | j + 1, hj => simp at hj
    obtain ⟨v', w', hr, h2, h3, _⟩ := run_append_own (P := P) w w.heap.size t ty e i z 1 8 ht hi hz hsize hby hzs (by decide) (.slice none 0 0) 0 [] (World.ownsRow_nil _ _ _ _) ad 1 1 ([y].map (Value.int .i64)) (by simp) hnews (ints_oneCell .i64 [y]) (by unfold maxLen; omega) (by omega) (Nat.le_refl _)
    rcases h2.2 with ⟨_, h0⟩ | ⟨g', cp, cur, rfl, hb, _⟩
    · omega
    exact ⟨g', cp, w', hr, hJ.step' (owns_mono (by simpa using h2) hJ.bel.size) h3 (.inr ⟨g', rfl, hb⟩)⟩
  · obtain ⟨v', w', hr, h2, h3, h4⟩ := run_append_at (P := P) w w0.heap.size t ty e i z ht hi hz hsize hby hzs g na cap xa hJ.oa ad 1 1 [y] hrow (by omega) (by omega) hJ.bel.size
    have hj := hJ.step h2 h3 h4
    rcases h2.2 with ⟨_, h0⟩ | ⟨g', cp, cur, rfl, _⟩
    · omega
    exact ⟨g', cp, w', hr, hj⟩
theorem wpList_j2 {P : Program} {ops : Array Oper} {rest : List Oper} {o : Oper} {a : Act} {Q : Exit → Act → World → Prop} {e : TypeId} {w0 w : World} {va : Value} {na : Nat} {xa : List Int} {vb : Value} {nb : Nat} {xb : List Int} (hJ : J2 e w0 w va na xa vb nb xb) (hgd : o.guard = none) (s x : Operand) (t : TypeId)
    (ho : o.op = .call { callee := .builtin .append, args := #[s, x], argTypes := #[t, t] }) (i : TypeInfo) (z : Value) (ht : P.underlying t = some (.slice e)) (hi : P.info? e = some i) (hz : i.zero = some z) (hsize : i.size = 1) (hby : i.bytes = 8) (hzs : z.cells.size = 1)
    (hs : a.eval s = va) (ad : Addr) (y : Int) (hx : a.eval x = .slice (some ad) 1 1) (hrow : Row .i64 w (some ad) 1 1 [y]) (hn : na ≤ 90000)
    (h : ∀ g cp w', J2 e w0 w' (.slice (some ⟨g, 0, none⟩) (na + 1) cp) (na + 1) (xa ++ [y]) vb nb xb → wpList P ops Q rest (a.put o.dst (.slice (some ⟨g, 0, none⟩) (na + 1) cp)) w') : wpList P ops Q (o :: rest) a w :=
  wpList_plain hgd fun K hK => by
    obtain ⟨g, cp, w', hr, h2⟩ := run_append_j2 (P := P) hJ t o.type i z ht hi hz hsize hby hzs ad y hrow hn
    unfold Oper.wp execOp
    simp only [ho, resolve, invoke, builtin, Sem.run_bind, Sem.run_pure, Result.andThen_ok, List.map_toArray, List.map_cons, List.map_nil, hs, hx, hr]
    exact hK _ _ (h g cp w' h2)
end Go.Proofs.YtfadjgaledddjaaGreatDoor

/- A new row that a call makes and fills place by place: of whatever integers. -/
namespace Go.Proofs.YtfadjgaledddjaaGreatDoor
open Go.RowKit
set_option linter.unusedVariables false
set_option maxHeartbeats 1000000
set_option maxRecDepth 100000
/-- The first k of n places have their values, the others 0. -/
def FL (f : Nat → Int) (n k : Nat) : List Int := (List.range n).map fun i => if i < k then f i else 0
theorem FL_len (f : Nat → Int) (n k : Nat) : (FL f n k).length = n := by simp [FL]
theorem FL_zero (f : Nat → Int) (n : Nat) : FL f n 0 = List.replicate n 0 := by
  refine List.ext_getElem (by simp [FL]) fun i h1 h2 => ?_
  simp [FL]
theorem FL_set (f : Nat → Int) (n k : Nat) : (FL f n k).set k (f k) = FL f n (k + 1) := by
  refine List.ext_getElem (by simp [FL]) fun i h1 h2 => ?_
  simp only [List.length_set, FL_len] at h1
  rw [List.getElem_set]
  simp only [FL, List.getElem_map, List.getElem_range]
  by_cases h : k = i
  · subst h; simp
  · rw [if_neg h]
    by_cases hlt : i < k
    · rw [if_pos hlt, if_pos (by omega)]
    · rw [if_neg hlt, if_neg (by omega)]
theorem FL_end (f : Nat → Int) (n : Nat) : FL f n n = (List.range n).map f := by
  unfold FL
  refine List.map_congr_left fun i hi => ?_
  rw [if_pos (List.mem_range.1 hi)]
/-- A row at the first new block. -/
structure NR (k : IntKind) (e : TypeId) (w : World) (n : Nat) (zs : List Int) (wr : World) : Prop where
  own : wr.ownsRow w.heap.size e 1 (.slice (some ⟨w.heap.size, 0, none⟩) n n) n (zs.map (Value.int k))
  bel : Below w.heap.size w wr
section
variable {k : IntKind} {e : TypeId} {w wr : World} {n : Nat} {zs : List Int}
theorem NR.set (h : NR k e w n zs wr) (j : Nat) (y : Int) : NR k e w n (zs.set j y) (wr.setCell ⟨w.heap.size, j, none⟩ (.int k y)) :=
  ⟨owns_set h.own j y, h.bel.setCell (p := ⟨w.heap.size, j, none⟩) (Nat.le_refl _) _⟩
theorem NR.keep (h : NR k e w n zs wr) {w2 : World} (hb : KO wr w2) : NR k e w n zs w2 := ⟨owns_below h.own hb, KO.on h.bel hb⟩
theorem NR.drewN (h : NR k e w n zs wr) (q : Nat) : NR k e w n zs (wr.drewN q) := h.keep (below_drewN wr q)
theorem NR.cell (h : NR k e w n zs wr) {j : Nat} (hj : j < n) : wr.cell? ⟨w.heap.size, j, none⟩ = some (.int k (zs.getD j 0)) := owns_cell h.own j hj
theorem NR.fz (h : NR k e w n zs wr) (j : Nat) : wr.frozen? ⟨w.heap.size, j, none⟩ = false := h.own.frozenAt j
theorem NR.row (h : NR k e w n zs wr) : Row k wr (some ⟨w.heap.size, 0, none⟩) n n zs := by
  obtain ⟨ao, c, e1, hr⟩ := row_of_owns h.own
  simp only [Value.slice.injEq] at e1
  obtain ⟨rfl, _, rfl⟩ := e1
  exact hr
/-- As make leaves it. -/
theorem NR.made (hown : wr.ownsRow w.heap.size e 1 (.slice (some ⟨w.heap.size, 0, none⟩) n n) n (madeCells #[.int k 0] n).toList) (hb : Below w.heap.size w wr) (f : Nat → Int) : NR k e w n (FL f n 0) wr := by
  refine ⟨?_, hb⟩
  have e2 : (madeCells #[Value.int k 0] n).toList = (FL f n 0).map (Value.int k) := by
    rw [FL_zero]
    simp [toList_madeCells_one]
  rw [← e2]
  exact hown
end
end Go.Proofs.YtfadjgaledddjaaGreatDoor
