/- The stack of explicit levels, as it lies in memory; its small methods. -/
import Derived.Test.YthohbiklnknofaaEx
import Derived.Test.YthohbiklnknofaaBase
import Derived.Laws.Tables
import Derived.DeepKeys
namespace Go.Proofs.Ythohbiklnknofaa
open Go.RowKit
set_option linter.unusedVariables false
set_option maxHeartbeats 1000000
set_option maxRecDepth 100000
/-- The cells of an entry. -/
def ec (e : Ex.Ent) : List Value := [.int .i64 e.lv, .int .i64 e.ov, .bool e.is]
def ents (l : List Ex.Ent) : List Value := l.reverse.flatMap ec
theorem ents_cons (e : Ex.Ent) (l : List Ex.Ent) : ents (e :: l) = ents l ++ ec e := by simp [ents, List.flatMap_append]
theorem ents_len (l : List Ex.Ent) : (ents l).length = l.length * 3 := by
  induction l with
  | nil => rfl
  | cons e r ih => rw [ents_cons, List.length_append, ih, List.length_cons]; simp only [ec, List.length_cons, List.length_nil]; omega
theorem ents_one (l : List Ex.Ent) : ∀ u ∈ ents l, u.oneCell' = true := by
  intro u hu
  simp only [ents, List.mem_flatMap] at hu
  obtain ⟨e, _, he⟩ := hu
  simp only [ec, List.mem_cons, List.not_mem_nil, or_false] at he
  rcases he with rfl | rfl | rfl <;> simp [Value.oneCell']
theorem ents_top (e : Ex.Ent) (l : List Ex.Ent) : (ents (e :: l))[l.length * 3]? = some (.int .i64 e.lv) ∧ (ents (e :: l))[l.length * 3 + 1]? = some (.int .i64 e.ov) ∧ (ents (e :: l))[l.length * 3 + 2]? = some (.bool e.is) := by
  rw [ents_cons, ← ents_len l]
  refine ⟨?_, ?_, ?_⟩
  · rw [List.getElem?_append_right (Nat.le_refl _), Nat.sub_self]; rfl
  · rw [List.getElem?_append_right (by omega), show (ents l).length + 1 - (ents l).length = 1 from by omega]; rfl
  · rw [List.getElem?_append_right (by omega), show (ents l).length + 2 - (ents l).length = 2 from by omega]; rfl
theorem ents_bot {b : Int} {l : List Ex.Ent} (h : Ex.Chain b l) : (ents l)[0]? = some (.int .i64 b) ∧ (ents l)[1]? = some (.int .i64 0) ∧ (ents l)[2]? = some (.bool false) := by
  obtain ⟨r, rfl⟩ := h.last
  have e : ents (r ++ [Ex.bot b]) = ec (Ex.bot b) ++ ents r := by simp [ents, List.reverse_append]
  rw [e]
  exact ⟨rfl, rfl, rfl⟩
/-- The stack lies at block p, its entries from block g on; all from block B on. -/
structure SA (B : Nat) (w : World) (p : Nat) (S : Ex.St) (g cap : Nat) : Prop where
  ge : B ≤ p
  blk : w.heap[p]? = some (.cells #[.slice (some ⟨g, 0, none⟩) S.st.length cap, .int .i64 (S.oi : Int), .int .i64 (S.oe : Int), .int .i64 (S.va : Int)] 57 (0, 0))
  own : w.ownsRow B 54 3 (.slice (some ⟨g, 0, none⟩) S.st.length cap) S.st.length (ents S.st)
  ne : ¬ g = p
section
variable {B : Nat} {w : World} {p : Nat} {S : Ex.St} {g cap : Nat}
theorem SA.lt (h : SA B w p S g cap) : p < w.heap.size ∧ g < w.heap.size ∧ B ≤ g := ⟨(Array.getElem?_eq_some_iff.1 h.blk).1, (h.own.lt g rfl).2, (h.own.lt g rfl).1⟩
theorem SA.size (h : SA B w p S g cap) : B ≤ w.heap.size := by have h1 := h.lt.1; have h2 := h.ge; omega
theorem SA.caps (h : SA B w p S g cap) : S.st.length ≤ cap ∧ cap ≤ maxLen := by
  rcases h.own.2 with ⟨h0, _⟩ | ⟨g', cap', cur, hv, _, _, h1, h2, _⟩
  · cases h0
  · cases hv; exact ⟨h1, h2⟩
theorem SA.c0 (h : SA B w p S g cap) : w.cell? ⟨p, 0, none⟩ = some (.slice (some ⟨g, 0, none⟩) S.st.length cap) := by simp [World.cell?, h.blk]
theorem SA.c1 (h : SA B w p S g cap) : w.cell? ⟨p, 1, none⟩ = some (.int .i64 (S.oi : Int)) := by simp [World.cell?, h.blk]
theorem SA.c2 (h : SA B w p S g cap) : w.cell? ⟨p, 2, none⟩ = some (.int .i64 (S.oe : Int)) := by simp [World.cell?, h.blk]
theorem SA.c3 (h : SA B w p S g cap) : w.cell? ⟨p, 3, none⟩ = some (.int .i64 (S.va : Int)) := by simp [World.cell?, h.blk]
theorem SA.fz (h : SA B w p S g cap) (j : Nat) : w.frozen? ⟨p, j, none⟩ = false := by simp [World.frozen?, h.blk]
theorem SA.below (h : SA B w p S g cap) {w' : World} (hb : Below w.heap.size w w') : SA B w' p S g cap := ⟨h.ge, (hb.block p h.lt.1).trans h.blk, owns_below h.own hb, h.ne⟩
theorem SA.drew (h : SA B w p S g cap) : SA B w.drew p S g cap := h.below (Below.drew (Below.refl _ _))
theorem SA.top (h : SA B w p S g cap) {m : Nat} (hm : S.st.length = m + 1) : w.cell? ⟨g, m * 3, none⟩ = some (.int .i64 (Ex.hd S.st).lv) ∧ w.cell? ⟨g, m * 3 + 1, none⟩ = some (.int .i64 (Ex.hd S.st).ov) ∧ w.cell? ⟨g, m * 3 + 2, none⟩ = some (.bool (Ex.hd S.st).is) := by
  have ho := h.own
  cases hs : S.st with
  | nil => rw [hs] at hm; simp at hm
  | cons e r =>
    rw [hs] at ho hm
    have hr : r.length = m := by simpa using hm
    have ht := ents_top e r
    rw [hr] at ht
    have hl := ho.1
    rw [List.length_cons, hr] at hl
    exact ⟨(ho.cellAt _ (by rw [List.length_cons]; omega)).trans ht.1, (ho.cellAt _ (by rw [List.length_cons]; omega)).trans ht.2.1, (ho.cellAt _ (by rw [List.length_cons]; omega)).trans ht.2.2⟩
theorem SA.bot (h : SA B w p S g cap) {b : Int} (hc : Ex.Chain b S.st) : w.cell? ⟨g, 0, none⟩ = some (.int .i64 b) ∧ w.cell? ⟨g, 1, none⟩ = some (.int .i64 0) ∧ w.cell? ⟨g, 2, none⟩ = some (.bool false) := by
  have ht := ents_bot hc
  have hp := hc.pos
  exact ⟨(h.own.cellAt 0 (by omega)).trans ht.1, (h.own.cellAt 1 (by omega)).trans ht.2.1, (h.own.cellAt 2 (by omega)).trans ht.2.2⟩
theorem SA.blkSet (h : SA B w p S g cap) (j : Nat) (v : Value) : (w.setCell ⟨p, j, none⟩ v).heap[p]? = some (.cells ((#[.slice (some ⟨g, 0, none⟩) S.st.length cap, .int .i64 (S.oi : Int), .int .i64 (S.oe : Int), .int .i64 (S.va : Int)] : Array Value).setIfInBounds j v) 57 (0, 0)) := by
  rw [setCell_eq_setRow w p j _ _ _ v h.blk]
  exact setRow_heap w p _ _ _ _ h.blk
theorem SA.ownSet (h : SA B w p S g cap) (j : Nat) (v : Value) : (w.setCell ⟨p, j, none⟩ v).ownsRow B 54 3 (.slice (some ⟨g, 0, none⟩) S.st.length cap) S.st.length (ents S.st) := by
  have ho := h.own
  refine ⟨ho.1, ?_⟩
  rcases ho.2 with ⟨h0, _⟩ | ⟨g', cap', cur, hv, hbs, hg, rest⟩
  · cases h0
  · cases hv
    refine .inr ⟨g, cap, cur, rfl, hbs, ?_, rest⟩
    rw [setCell_eq_setRow w p j _ _ _ v h.blk, setRow_other _ _ _ _ h.ne]
    exact hg
theorem SA.setOi (h : SA B w p S g cap) {z : Int} {k : Nat} (hz : z = (k : Int)) : SA B (w.setCell ⟨p, 1, none⟩ (.int .i64 z)) p ⟨S.st, k, S.oe, S.va⟩ g cap := by
  subst hz; exact ⟨h.ge, h.blkSet 1 _, h.ownSet 1 _, h.ne⟩
theorem SA.setOe (h : SA B w p S g cap) {z : Int} {k : Nat} (hz : z = (k : Int)) : SA B (w.setCell ⟨p, 2, none⟩ (.int .i64 z)) p ⟨S.st, S.oi, k, S.va⟩ g cap := by
  subst hz; exact ⟨h.ge, h.blkSet 2 _, h.ownSet 2 _, h.ne⟩
theorem SA.setVa (h : SA B w p S g cap) {z : Int} {k : Nat} (hz : z = (k : Int)) : SA B (w.setCell ⟨p, 3, none⟩ (.int .i64 z)) p ⟨S.st, S.oi, S.oe, k⟩ g cap := by
  subst hz; exact ⟨h.ge, h.blkSet 3 _, h.ownSet 3 _, h.ne⟩
theorem SA.pop (h : SA B w p S g cap) {m : Nat} (hm : S.st.length = m + 1) : SA B (w.setCell ⟨p, 0, none⟩ (.slice (some ⟨g, 0, none⟩) m cap)) p ⟨S.st.tail, S.oi, S.oe, S.va⟩ g cap := by
  have hb := h.blkSet 0 (.slice (some ⟨g, 0, none⟩) m cap)
  have ho := h.ownSet 0 (.slice (some ⟨g, 0, none⟩) m cap)
  cases hs : S.st with
  | nil => rw [hs] at hm; simp at hm
  | cons e r =>
    rw [hs] at hm ho hb
    have hr : r.length = m := by simpa using hm
    subst hr
    rw [ents_cons, List.length_cons] at ho
    exact ⟨h.ge, hb, ownsRow_pop (ents_len r) ho, h.ne⟩
/-- Behind an append. -/
theorem SA.push (h : SA B w p S g cap) {e : Ex.Ent} {o : Obj} {v' : Value} {w' : World} (ho : w'.ownsRow B 54 3 v' (S.st.length + 1) (ents S.st ++ ec e)) (hg : (w.alloc o).grownBy w' (some g)) :
    ∃ g' cap', v' = .slice (some ⟨g', 0, none⟩) (S.st.length + 1) cap' ∧ SA B (w'.setCell ⟨p, 0, none⟩ v') p ⟨e :: S.st, S.oi, S.oe, S.va⟩ g' cap' := by
  obtain ⟨g', cap', rfl, hb, hle⟩ := owns_pos ho (by omega)
  refine ⟨g', cap', rfl, ?_⟩
  have hp : w'.heap[p]? = some (.cells #[.slice (some ⟨g, 0, none⟩) S.st.length cap, .int .i64 (S.oi : Int), .int .i64 (S.oe : Int), .int .i64 (S.va : Int)] 57 (0, 0)) := by
    rw [hg.block p (by simp; have := h.lt.1; omega) (fun h0 => h.ne (by simpa using h0.symm))]
    rw [← h.blk]
    exact (Below.alloc (Below.refl w.heap.size w) (Nat.le_refl _) o).block p h.lt.1
  have hne : ¬ g' = p := by
    rintro rfl
    rcases ho.2 with ⟨h0, _⟩ | ⟨g2, cap2, cur, hv2, hbs, hg2, rest⟩
    · cases h0
    · cases hv2
      rw [hp] at hg2
      simp at hg2
  refine ⟨h.ge, ?_, ?_, hne⟩
  · rw [setCell_eq_setRow w' p 0 _ _ _ _ hp]
    exact setRow_heap w' p _ _ _ _ hp
  · rw [← ents_cons] at ho
    refine ⟨ho.1, ?_⟩
    rcases ho.2 with ⟨h0, _⟩ | ⟨g2, cap2, cur, hv2, hbs, hg2, rest⟩
    · cases h0
    · cases hv2
      refine .inr ⟨g', cap', cur, rfl, hbs, ?_, rest⟩
      rw [setCell_eq_setRow w' p 0 _ _ _ _ hp, setRow_other _ _ _ _ hne]
      exact hg2
theorem SA.grown (h : SA B w p S g cap) {o : Obj} {w' : World} (hg : (w.alloc o).grownBy w' (some g)) : w'.cell? ⟨p, 0, none⟩ = some (.slice (some ⟨g, 0, none⟩) S.st.length cap) ∧ w'.frozen? ⟨p, 0, none⟩ = false := by
  have hp : w'.heap[p]? = w.heap[p]? := by
    rw [hg.block p (by simp; have := h.lt.1; omega) (fun h0 => h.ne (by simpa using h0.symm))]
    exact (Below.alloc (Below.refl w.heap.size w) (Nat.le_refl _) o).block p h.lt.1
  exact ⟨by simp [World.cell?, hp, h.blk], by simp [World.frozen?, hp, h.blk]⟩
theorem SA.setLow (h : SA B w p S g cap) {a : Addr} (ha : a.block < B) (v : Value) : SA B (w.setCell a v) p S g cap := by
  refine ⟨h.ge, ?_, ownsRow_setCell_below h.own ha v, h.ne⟩
  rw [← h.blk]
  have hne : ¬ a.block = p := by have := h.ge; omega
  unfold World.setCell
  simp [Array.getElem?_modify, hne]
end
end Go.Proofs.Ythohbiklnknofaa
