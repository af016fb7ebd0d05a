/- Copies of lists ('append([]T{}, l...)') that one statement makes beside one another, in whatever order. -/
import Derived.Test.YtkkmifpdhcdkpaaDoorCopy
import Derived.Test.YtkkmifpdhcdkpaaDoorKeep
import Derived.Laws.AppendOwn
namespace Go.Proofs.YtkkmifpdhcdkpaaDoor
open Go.RowKit
set_option linter.unusedVariables false
set_option maxHeartbeats 1000000
set_option maxRecDepth 100000
/-- Nothing is appended to nothing. -/
theorem run_append_zero {P : Program} (w : World) (t ty e : TypeId) (i : TypeInfo) (ht : P.underlying t = some (.slice e)) (hi : P.info? e = some i) (ag : Addr) (ao : Option Addr) (c : Nat) :
    (Builtin.append_ #[t, t] ty #[.slice (some ag) 0 0, .slice ao 0 c]).run P w = .ok (.slice (some ag) 0 0) w := by
  cases ao with
  | none => simp [Builtin.append_, run_underlying ht, sizeOf, typeInfo, hi, Builtin.lenOf, Builtin.firstCells, storeCells]
  | some ad =>
    have hf := run_firstCells_some (P := P) w i.size 0 ad 0 c [] (by simp) (by simp)
    simp [Builtin.append_, run_underlying ht, sizeOf, typeInfo, hi, Builtin.lenOf, hf, storeCells]
theorem run_append_fresh {P : Program} (w : World) (t ty e : TypeId) (i : TypeInfo) (z : Value) (k : IntKind) (bytes : Nat) (ht : P.underlying t = some (.slice e)) (hi : P.info? e = some i) (hz : i.zero = some z) (hsize : i.size = 1) (hby : i.bytes = bytes) (hzs : z.cells.size = 1)
    (ag : Addr) (ad : Addr) (m c : Nat) (zs : List Int) (hrow : Row k w (some ad) m c zs) (hm : 0 < m) (hn : m * bytes ≤ 140737488355328) (hb1 : 1 ≤ bytes) :
    ∃ g cap w', (Builtin.append_ #[t, t] ty #[.slice (some ag) 0 0, .slice (some ad) m c]).run P w = .ok (.slice (some ⟨g, 0, none⟩) m cap) w' ∧ w'.ownsRow w.heap.size e 1 (.slice (some ⟨g, 0, none⟩) m cap) m (zs.map (Value.int k)) ∧ w.grownBy w' none := by
  have hnews : ∀ j u, (zs.map (Value.int k))[j]? = some u → w.cell? (ad.add j) = some u := by
    intro j u hj
    have hjl : j < zs.length := by
      have := (List.getElem?_eq_some_iff.1 hj).1
      simpa using this
    have hl := hrow.len
    obtain ⟨b, off, e1, _, hc⟩ := hrow.cells (by omega)
    simp only [Option.some.injEq] at e1
    subst e1
    have hadd : (⟨b, off, none⟩ : Addr).add j = ⟨b, off + j, none⟩ := by unfold Addr.add; split <;> simp_all
    rw [hadd, hc j hjl]
    rw [List.getElem?_map, List.getElem?_eq_getElem hjl] at hj
    simp only [Option.map_some, Option.some.injEq] at hj
    rw [← hj]
    simp [List.getD, List.getElem?_eq_getElem hjl]
  have hlen : (zs.map (Value.int k)).length = m * 1 := by simp [hrow.len]
  have hmm : m ≤ 140737488355328 := by
    have : m * 1 ≤ m * bytes := Nat.mul_le_mul_left _ hb1
    omega
  have hq := run_append_grow (P := P) w t ty e i z ht hi hz ag 0 0 [] (by simp) (by simp) ad m c (zs.map (Value.int k)) (by rw [hsize]; exact hlen) hnews (by omega) (by omega) (growslice_fits (by omega) (by rw [hby]; simpa using hn))
  have hge := grownCap_ge w (0 + m) 0 e
  have hml : grownCap w (0 + m) 0 e ≤ maxLen := grownCap_le_maxLen w (0 + m) 0 e (by unfold maxLen; omega)
  rw [Nat.zero_add] at hq hge hml
  refine ⟨w.heap.size, grownCap w m 0 e, _, hq, ⟨by simp [hrow.len], .inr ⟨w.heap.size, grownCap w m 0 e, _, rfl, Nat.le_refl _, heap_alloc_new w.drew _, by omega, hml, ?_, ?_⟩⟩, ⟨rfl, rfl, rfl, by simp, fun k hk _ => Below.heap_alloc w.drew _ k hk⟩⟩
  · simp only [Array.size_append, List.size_toArray, size_zeroCells, hzs, List.length_map, hrow.len, List.length_nil]
    omega
  · simp only [Array.toList_append, List.nil_append]
    rw [List.take_append_of_le_length (by simp [hrow.len])]
    rw [List.take_of_length_le (by simp [hrow.len])]
/-- The rows that were copied till now. -/
def AllR (X : World) (L : List (IntKind × Option Addr × Nat × Nat × List Int)) (w : World) : Prop := KO X w ∧ ∀ r ∈ L, Row r.1 w r.2.1 r.2.2.1 r.2.2.2.1 r.2.2.2.2
theorem AllR.below {X w w' : World} {L : List (IntKind × Option Addr × Nat × Nat × List Int)} (h : AllR X L w) (hk : KO w w') : AllR X L w' := ⟨KO.on h.1 hk, fun r hr => (h.2 r hr).below hk⟩
theorem AllR.push {X w : World} {L : List (IntKind × Option Addr × Nat × Nat × List Int)} (h : AllR X L w) {k : IntKind} {a : Option Addr} {m c : Nat} {zs : List Int} (hr : Row k w a m c zs) : AllR X ((k, a, m, c, zs) :: L) w :=
  ⟨h.1, fun r hm => by
    rcases List.mem_cons.1 hm with rfl | hm
    · exact hr
    · exact h.2 r hm⟩
theorem step_copyJ {P : Program} {ops : Array Oper} {o : Oper} {a : Act} {K : Act → World → Prop} {Q : Exit → Act → World → Prop} {E : Prop} {X wl w : World} {L : List (IntKind × Option Addr × Nat × Nat × List Int)} (hJ : AllR X L wl) (hk : KO wl w) (hgd : o.guard = none) (s x : Operand) (t : TypeId)
    (ho : o.op = .call { callee := .builtin .append, args := #[s, x], argTypes := #[t, t] }) (e : TypeId) (i : TypeInfo) (z : Value) (bytes : Nat) (ht : P.underlying t = some (.slice e)) (hi : P.info? e = some i) (hz : i.zero = some z) (hsize : i.size = 1) (hby : i.bytes = bytes) (hzs : z.cells.size = 1)
    (ag : Addr) (hs : a.eval s = .slice (some ag) 0 0) (k : IntKind) (ao : Option Addr) (m c : Nat) (zs : List Int) (hx : a.eval x = .slice ao m c) (hrow : Row k X ao m c zs) (hn : m * bytes ≤ 140737488355328) (hb1 : 1 ≤ bytes)
    (h : ∀ a' c' w', AllR X ((k, a', m, c', zs) :: L) w' → KO w w' → K (a.put o.dst (.slice a' m c')) w') :
    if Region.wanted o (yielded ops a.tmps) = true then Oper.wp P o a w K Q else E := by
  have hw : Region.wanted o (yielded ops a.tmps) = true := by simp [Region.wanted, hgd]
  rw [if_pos hw]
  have hJw := hJ.below hk
  have hrw := hrow.below hJw.1
  by_cases hm : m = 0
  · subst hm
    have hr := run_append_zero (P := P) w t o.type e i ht hi ag ao c
    have hz0 : zs = [] := List.length_eq_zero_iff.1 hrow.len
    unfold Oper.wp execOp
    simp only [ho, resolve, invoke, builtin, Sem.run_bind, Sem.run_pure, Result.andThen_ok, List.map_toArray, List.map_cons, List.map_nil, hs, hx, hr]
    refine h (some ag) 0 w (hJw.push ?_) (KO.refl _)
    subst hz0
    exact ⟨rfl, Nat.le_refl _, Nat.zero_le _, fun h0 => by omega, fun h0 => by cases h0⟩
  · obtain ⟨b, off, rfl, _, _⟩ := hrow.cells (by omega)
    obtain ⟨g, cap, w', hr, h2, h3⟩ := run_append_fresh (P := P) w t o.type e i z k bytes ht hi hz hsize hby hzs ag _ m c zs hrw (by omega) hn hb1
    have hkw : KO w w' := (Below.refl w.heap.size w).grown h3 (Nat.le_refl _) (fun _ h => by cases h)
    obtain ⟨ao', cap', e1, hr2⟩ := row_of_owns h2
    simp only [Value.slice.injEq] at e1
    obtain ⟨rfl, _, rfl⟩ := e1
    unfold Oper.wp execOp
    simp only [ho, resolve, invoke, builtin, Sem.run_bind, Sem.run_pure, Result.andThen_ok, List.map_toArray, List.map_cons, List.map_nil, hs, hx, hr]
    exact h _ cap w' ((hJw.below hkw).push hr2) hkw
end Go.Proofs.YtkkmifpdhcdkpaaDoor
