import Derived.Test.YtfcoebbblfcdoaaGreatDoorZ05
import Derived.Test.YtfcoebbblfcdoaaGreatDoorZ07
import Derived.Laws.Tables
import Derived.DeepKeys
import Derived.Deep.WholeRow
import Derived.Great.BuildSlice
import Derived.Deep.RegionHeld3
import Derived.Deep.RegionHeldLaw
import Derived.Deep.RegionLaw
import Derived.Deep.LoopGhost
/- The stack of explicit levels, as it lies in memory; its small methods. -/
namespace Go.Proofs.YtfcoebbblfcdoaaGreatDoor
open Go.RowKit
set_option linter.unusedVariables false
set_option maxHeartbeats 1000000
set_option maxRecDepth 100000
def ec (e : Ex.Ent) : List Value := [.int .i64 e.lv, .int .i64 e.ov, .bool e.is]
def ents (l : List Ex.Ent) : List Value := l.reverse.flatMap ec
theorem ents_cons (e : Ex.Ent) (l : List Ex.Ent) : ents (e :: l) = ents l ++ ec e := by simp [ents, List.flatMap_append]
theorem ents_len (l : List Ex.Ent) : (ents l).length = l.length * 3 := by
 induction l with
 | nil => rfl
 | cons e r ih => rw [ents_cons, List.length_append, ih, List.length_cons]; simp only [ec, List.length_cons, List.length_nil]; omega
theorem ents_one (l : List Ex.Ent) : ∀ u ∈ ents l, u.oneCell' = true := by
 intro u hu
 simp only [ents, List.mem_flatMap] at hu
 obtain ⟨e, _, he⟩ := hu
 simp only [ec, List.mem_cons, List.not_mem_nil, or_false] at he
 rcases he with rfl | rfl | rfl <;> simp [Value.oneCell']
theorem ents_top (e : Ex.Ent) (l : List Ex.Ent) : (ents (e :: l))[l.length * 3]? = some (.int .i64 e.lv) /\ (ents (e :: l))[l.length * 3 + 1]? = some (.int .i64 e.ov) /\ (ents (e :: l))[l.length * 3 + 2]? = some (.bool e.is) := by
 rw [ents_cons, <- ents_len l]
 refine ⟨?_, ?_, ?_⟩
 ·rw [List.getElem?_append_right (Nat.le_refl _), Nat.sub_self]; rfl
 ·rw [List.getElem?_append_right (by omega), show (ents l).length + 1 - (ents l).length = 1 from by omega]; rfl
 ·rw [List.getElem?_append_right (by omega), show (ents l).length + 2 - (ents l).length = 2 from by omega]; rfl
theorem ents_bot {b : Int} {l : List Ex.Ent} (h : Ex.Chain b l) : (ents l)[0]? = some (.int .i64 b) /\ (ents l)[1]? = some (.int .i64 0) /\ (ents l)[2]? = some (.bool false) := by
 obtain ⟨r, rfl⟩ := h.last
 have e : ents (r ++ [Ex.bot b]) = ec (Ex.bot b) ++ ents r := by simp [ents, List.reverse_append]
 rw [e]
 exact ⟨rfl, rfl, rfl⟩
structure SA (B : Nat) (w : World) (p : Nat) (S : Ex.St) (g cap : Nat) : Prop where
 ge : B <= p
 blk : w.heap[p]? = some (.cells #[.slice (some ⟨g, 0, none⟩) S.st.length cap, .int .i64 (S.oi : Int), .int .i64 (S.oe : Int), .int .i64 (S.va : Int)] 151 (0, 0))
 own : w.ownsRow B 148 3 (.slice (some ⟨g, 0, none⟩) S.st.length cap) S.st.length (ents S.st)
 ne : ¬ g = p
section
variable {B : Nat} {w : World} {p : Nat} {S : Ex.St} {g cap : Nat}
theorem SA.lt (h : SA B w p S g cap) : p < w.heap.size /\ g < w.heap.size /\ B <= g := ⟨(Array.getElem?_eq_some_iff.1 h.blk).1, (h.own.lt g rfl).2, (h.own.lt g rfl).1⟩
theorem SA.size (h : SA B w p S g cap) : B <= w.heap.size := by have h1 := h.lt.1; have h2 := h.ge; omega
theorem SA.caps (h : SA B w p S g cap) : S.st.length <= cap /\ cap <= maxLen := by
 rcases h.own.2 with ⟨h0, _⟩ | ⟨g', cap', cur, hv, _, _, h1, h2, _⟩
 ·cases h0
 ·cases hv; exact ⟨h1, h2⟩
theorem SA.c0 (h : SA B w p S g cap) : w.cell? ⟨p, 0, none⟩ = some (.slice (some ⟨g, 0, none⟩) S.st.length cap) := by simp [World.cell?, h.blk]
theorem SA.c1 (h : SA B w p S g cap) : w.cell? ⟨p, 1, none⟩ = some (.int .i64 (S.oi : Int)) := by simp [World.cell?, h.blk]
theorem SA.c2 (h : SA B w p S g cap) : w.cell? ⟨p, 2, none⟩ = some (.int .i64 (S.oe : Int)) := by simp [World.cell?, h.blk]
theorem SA.c3 (h : SA B w p S g cap) : w.cell? ⟨p, 3, none⟩ = some (.int .i64 (S.va : Int)) := by simp [World.cell?, h.blk]
theorem SA.fz (h : SA B w p S g cap) (j : Nat) : w.frozen? ⟨p, j, none⟩ = false := by simp [World.frozen?, h.blk]
theorem SA.below (h : SA B w p S g cap) {w' : World} (hb : Below w.heap.size w w') : SA B w' p S g cap := ⟨h.ge, (hb.block p h.lt.1).trans h.blk, owns_below h.own hb, h.ne⟩
theorem SA.drew (h : SA B w p S g cap) : SA B w.drew p S g cap := h.below (Below.drew (Below.refl _ _))
theorem SA.top (h : SA B w p S g cap) {m : Nat} (hm : S.st.length = m + 1) : w.cell? ⟨g, m * 3, none⟩ = some (.int .i64 (Ex.hd S.st).lv) /\ w.cell? ⟨g, m * 3 + 1, none⟩ = some (.int .i64 (Ex.hd S.st).ov) /\ w.cell? ⟨g, m * 3 + 2, none⟩ = some (.bool (Ex.hd S.st).is) := by
 have ho := h.own
 cases hs : S.st with
 | nil => rw [hs] at hm; simp at hm
 | cons e r =>
  rw [hs] at ho hm
  have hr : r.length = m := by simpa using hm
  have ht := ents_top e r
  rw [hr] at ht
  have hl := ho.1
  rw [List.length_cons, hr] at hl
  exact ⟨(ho.cellAt _ (by rw [List.length_cons]; omega)).trans ht.1, (ho.cellAt _ (by rw [List.length_cons]; omega)).trans ht.2.1, (ho.cellAt _ (by rw [List.length_cons]; omega)).trans ht.2.2⟩
theorem SA.bot (h : SA B w p S g cap) {b : Int} (hc : Ex.Chain b S.st) : w.cell? ⟨g, 0, none⟩ = some (.int .i64 b) /\ w.cell? ⟨g, 1, none⟩ = some (.int .i64 0) /\ w.cell? ⟨g, 2, none⟩ = some (.bool false) := by
 have ht := ents_bot hc
 have hp := hc.pos
 exact ⟨(h.own.cellAt 0 (by omega)).trans ht.1, (h.own.cellAt 1 (by omega)).trans ht.2.1, (h.own.cellAt 2 (by omega)).trans ht.2.2⟩
theorem SA.blkSet (h : SA B w p S g cap) (j : Nat) (v : Value) : (w.setCell ⟨p, j, none⟩ v).heap[p]? = some (.cells ((#[.slice (some ⟨g, 0, none⟩) S.st.length cap, .int .i64 (S.oi : Int), .int .i64 (S.oe : Int), .int .i64 (S.va : Int)] : Array Value).setIfInBounds j v) 151 (0, 0)) := by
 rw [setCell_eq_setRow w p j _ _ _ v h.blk]
 exact setRow_heap w p _ _ _ _ h.blk
theorem SA.ownSet (h : SA B w p S g cap) (j : Nat) (v : Value) : (w.setCell ⟨p, j, none⟩ v).ownsRow B 148 3 (.slice (some ⟨g, 0, none⟩) S.st.length cap) S.st.length (ents S.st) := by
 have ho := h.own
 refine ⟨ho.1, ?_⟩
 rcases ho.2 with ⟨h0, _⟩ | ⟨g', cap', cur, hv, hbs, hg, rest⟩
 ·cases h0
 ·cases hv
  refine .inr ⟨g, cap, cur, rfl, hbs, ?_, rest⟩
  rw [setCell_eq_setRow w p j _ _ _ v h.blk, setRow_other _ _ _ _ h.ne]
  exact hg
theorem SA.setOi (h : SA B w p S g cap) {z : Int} {k : Nat} (hz : z = (k : Int)) : SA B (w.setCell ⟨p, 1, none⟩ (.int .i64 z)) p ⟨S.st, k, S.oe, S.va⟩ g cap := by
 subst hz; exact ⟨h.ge, h.blkSet 1 _, h.ownSet 1 _, h.ne⟩
theorem SA.setOe (h : SA B w p S g cap) {z : Int} {k : Nat} (hz : z = (k : Int)) : SA B (w.setCell ⟨p, 2, none⟩ (.int .i64 z)) p ⟨S.st, S.oi, k, S.va⟩ g cap := by
 subst hz; exact ⟨h.ge, h.blkSet 2 _, h.ownSet 2 _, h.ne⟩
theorem SA.setVa (h : SA B w p S g cap) {z : Int} {k : Nat} (hz : z = (k : Int)) : SA B (w.setCell ⟨p, 3, none⟩ (.int .i64 z)) p ⟨S.st, S.oi, S.oe, k⟩ g cap := by
 subst hz; exact ⟨h.ge, h.blkSet 3 _, h.ownSet 3 _, h.ne⟩
theorem SA.pop (h : SA B w p S g cap) {m : Nat} (hm : S.st.length = m + 1) : SA B (w.setCell ⟨p, 0, none⟩ (.slice (some ⟨g, 0, none⟩) m cap)) p ⟨S.st.tail, S.oi, S.oe, S.va⟩ g cap := by
 have hb := h.blkSet 0 (.slice (some ⟨g, 0, none⟩) m cap)
 have ho := h.ownSet 0 (.slice (some ⟨g, 0, none⟩) m cap)
 cases hs : S.st with
 | nil => rw [hs] at hm; simp at hm
 | cons e r =>
  rw [hs] at hm ho hb
  have hr : r.length = m := by simpa using hm
  subst hr
  rw [ents_cons, List.length_cons] at ho
  exact ⟨h.ge, hb, ownsRow_pop (ents_len r) ho, h.ne⟩
theorem SA.push (h : SA B w p S g cap) {e : Ex.Ent} {o : Obj} {v' : Value} {w' : World} (ho : w'.ownsRow B 148 3 v' (S.st.length + 1) (ents S.st ++ ec e)) (hg : (w.alloc o).grownBy w' (some g)) :
  ∃ g' cap', v' = .slice (some ⟨g', 0, none⟩) (S.st.length + 1) cap' /\ SA B (w'.setCell ⟨p, 0, none⟩ v') p ⟨e :: S.st, S.oi, S.oe, S.va⟩ g' cap' := by
 obtain ⟨g', cap', rfl, hb, hle⟩ := owns_pos ho (by omega)
 refine ⟨g', cap', rfl, ?_⟩
 have hp : w'.heap[p]? = some (.cells #[.slice (some ⟨g, 0, none⟩) S.st.length cap, .int .i64 (S.oi : Int), .int .i64 (S.oe : Int), .int .i64 (S.va : Int)] 151 (0, 0)) := by
  rw [hg.block p (by simp; have := h.lt.1; omega) (fun h0 => h.ne (by simpa using h0.symm))]
  rw [<- h.blk]
  exact (Below.alloc (Below.refl w.heap.size w) (Nat.le_refl _) o).block p h.lt.1
 have hne : ¬ g' = p := by
  rintro rfl
  rcases ho.2 with ⟨h0, _⟩ | ⟨g2, cap2, cur, hv2, hbs, hg2, rest⟩
  ·cases h0
  ·cases hv2
   rw [hp] at hg2
   simp at hg2
 refine ⟨h.ge, ?_, ?_, hne⟩
 ·rw [setCell_eq_setRow w' p 0 _ _ _ _ hp]
  exact setRow_heap w' p _ _ _ _ hp
 ·rw [<- ents_cons] at ho
  refine ⟨ho.1, ?_⟩
  rcases ho.2 with ⟨h0, _⟩ | ⟨g2, cap2, cur, hv2, hbs, hg2, rest⟩
  ·cases h0
  ·cases hv2
   refine .inr ⟨g', cap', cur, rfl, hbs, ?_, rest⟩
   rw [setCell_eq_setRow w' p 0 _ _ _ _ hp, setRow_other _ _ _ _ hne]
   exact hg2
theorem SA.grown (h : SA B w p S g cap) {o : Obj} {w' : World} (hg : (w.alloc o).grownBy w' (some g)) : w'.cell? ⟨p, 0, none⟩ = some (.slice (some ⟨g, 0, none⟩) S.st.length cap) /\ w'.frozen? ⟨p, 0, none⟩ = false := by
 have hp : w'.heap[p]? = w.heap[p]? := by
  rw [hg.block p (by simp; have := h.lt.1; omega) (fun h0 => h.ne (by simpa using h0.symm))]
  exact (Below.alloc (Below.refl w.heap.size w) (Nat.le_refl _) o).block p h.lt.1
 exact ⟨by simp [World.cell?, hp, h.blk], by simp [World.frozen?, hp, h.blk]⟩
theorem SA.setLow (h : SA B w p S g cap) {a : Addr} (ha : a.block < B) (v : Value) : SA B (w.setCell a v) p S g cap := by
 refine ⟨h.ge, ?_, ownsRow_setCell_below h.own ha v, h.ne⟩
 rw [<- h.blk]
 have hne : ¬ a.block = p := by have := h.ge; omega
 unfold World.setCell
 simp [Array.getElem?_modify, hne]
end
end Go.Proofs.YtfcoebbblfcdoaaGreatDoor

/- The stack's small methods: last, overflows, drop, way, overrideOf, Removed. -/
namespace Go.Proofs.YtfcoebbblfcdoaaGreatDoor
open Go.RowKit
set_option linter.unusedVariables false
set_option maxHeartbeats 1000000
set_option maxRecDepth 100000
theorem way_any (x : Int) (w : World) : Calls Tryz.prog 143 #[.int .i64 x] w fun e w' => e = .returned (.int .i64 (if Ex.odd x then 1 else 0)) /\ w = w' := by
 by_cases h1 : x = 17
 ·subst h1
  go_enter Tryz.func143, Tryz.ntmps143
  go_wp2
  go_ret
  exact ⟨rfl, rfl⟩
 ·by_cases h2 : x = 18
  ·subst h2
   go_enter Tryz.func143, Tryz.ntmps143
   go_wp2
   go_ret
   exact ⟨rfl, rfl⟩
  ·by_cases h3 : x = 21
   ·subst h3
    go_enter Tryz.func143, Tryz.ntmps143
    go_wp2
    go_ret
    exact ⟨rfl, rfl⟩
   ·have ho : Ex.odd x = false := by unfold Ex.odd; simp [h1, h2, h3]
    rw [ho]
    clear ho
    go_enter Tryz.func143, Tryz.ntmps143
    go_wp2
    go_ret
    exact ⟨rfl, rfl⟩
theorem overrideOf_any (x : Int) (w : World) : Calls Tryz.prog 124 #[.int .i64 x] w fun e w' => e = .returned (.int .i64 (Ex.ovr x)) /\ w = w' := by
 by_cases h1 : x = 16
 ·subst h1
  go_enter Tryz.func124, Tryz.ntmps124
  go_wp2
  go_ret
  exact ⟨rfl, rfl⟩
 ·by_cases h2 : x = 18
  ·subst h2
   go_enter Tryz.func124, Tryz.ntmps124
   go_wp2
   go_ret
   exact ⟨rfl, rfl⟩
  ·have ho : Ex.ovr x = 0 := by unfold Ex.ovr; simp [h1, h2]
   rw [ho]
   clear ho
   go_enter Tryz.func124, Tryz.ntmps124
   go_wp2
   go_ret
   exact ⟨rfl, rfl⟩
theorem rm_cases (x : Int) : (Ex.rm x = true /\ (x = 17 \/ x = 15 \/ x = 18 \/ x = 16 \/ x = 19 \/ x = 10)) \/ (Ex.rm x = false /\ ¬ x = 17 /\ ¬ x = 15 /\ ¬ x = 18 /\ ¬ x = 16 /\ ¬ x = 19 /\ ¬ x = 10) := by
 cases h : Ex.rm x with
 | true =>
  left
  unfold Ex.rm at h
  simp only [Bool.or_eq_true, beq_iff_eq] at h
  exact ⟨rfl, by omega⟩
 | false =>
  right
  unfold Ex.rm at h
  simp only [Bool.or_eq_false_iff, beq_eq_false_iff_ne] at h
  exact ⟨rfl, by omega⟩
theorem removed_any (x : Int) (w : World) : Calls Tryz.prog 127 #[.int .i64 x] w fun e w' => e = .returned (.bool (Ex.rm x)) /\ w = w' := by
 rcases rm_cases x with ⟨hs, h⟩ | ⟨hs, h1, h2, h3, h4, h5, h6⟩
 ·rcases h with rfl | rfl | rfl | rfl | rfl | rfl
  all_goals
   clear hs
   go_enter Tryz.func127, Tryz.ntmps127
   go_wp2
   go_ret
   exact ⟨rfl, rfl⟩
 ·rw [hs]
  clear hs
  go_enter Tryz.func127, Tryz.ntmps127
  go_wp2
  go_ret
  exact ⟨rfl, rfl⟩
theorem entInfo : (Tryz.prog.info? 148).map (fun i => (i.zero, i.size, i.bytes)) = some (some (.agg #[.int .i64 0, .int .i64 0, .bool false]), 3, 24) := by kernel_rfl
theorem entCells : Tryz.prog.cellsOf 148 = 3 := by kernel_rfl
theorem overflows_any {B : Nat} {w : World} {p : Nat} {S : Ex.St} {g cap : Nat} (h : SA B w p S g cap) :
  Calls Tryz.prog 128 #[.pointer (some ⟨p, 0, none⟩)] w fun e w' => e = .returned (.bool (!(S.oi == 0 && S.oe == 0))) /\ w = w' := by
 have c1 := h.c1
 have c2 := h.c2
 obtain ⟨st, oi, oe, va⟩ := S
 simp only at c1 c2 ⊢
 clear h
 by_cases h1 : 0 < oi
 ·have h1' : (0 : Int) < (oi : Int) := by omega
  have e1 : (oi == 0) = false := beq_false_of_ne (by omega)
  rw [e1]
  go_enter Tryz.func128, Tryz.ntmps128
  go_wp2
  go_ret
  exact ⟨rfl, rfl⟩
 ·obtain rfl : oi = 0 := by omega
  by_cases h2 : 0 < oe
  ·have h2' : (0 : Int) < (oe : Int) := by omega
   have e1 : (oe == 0) = false := beq_false_of_ne (by omega)
   rw [e1]
   go_enter Tryz.func128, Tryz.ntmps128
   go_wp2
   go_ret
   exact ⟨rfl, rfl⟩
  ·obtain rfl : oe = 0 := by omega
   go_enter Tryz.func128, Tryz.ntmps128
   go_wp2
   go_ret
   exact ⟨rfl, rfl⟩
theorem last_any {B : Nat} {w : World} {p : Nat} {S : Ex.St} {g cap : Nat} (h : SA B w p S g cap) (hn : 0 < S.st.length) :
  Calls Tryz.prog 125 #[.pointer (some ⟨p, 0, none⟩)] w fun e w' => e = .returned (.agg #[.int .i64 (Ex.hd S.st).lv, .int .i64 (Ex.hd S.st).ov, .bool (Ex.hd S.st).is]) /\ Below w.heap.size w w' := by
 obtain ⟨m, hm⟩ : ∃ m, S.st.length = m + 1 := ⟨S.st.length - 1, by omega⟩
 have c0 := h.c0
 rw [hm] at c0
 obtain ⟨t0, t1, t2⟩ := h.top hm
 obtain ⟨lt1, lt2, _⟩ := h.lt
 have hc := h.caps
 unfold maxLen at hc
 rw [hm] at hc
 have ei : ((m + 1 : Nat) : Int) - 1 = (m : Int) := by omega
 have hmm : (m : Int) < ((m + 1 : Nat) : Int) := by omega
 generalize (Ex.hd S.st).lv = lv at *
 generalize (Ex.hd S.st).ov = ov at *
 generalize (Ex.hd S.st).is = is at *
 have np : ¬ p = w.heap.size := by omega
 have ng : ¬ g = w.heap.size := by omega
 clear h hm hn
 go_enter Tryz.func125, Tryz.ntmps125
 go_wp2
 go_region
 all_goals (try go_wp2)
 all_goals
  refine bodyPost_ret (v := .agg #[.int .i64 lv, .int .i64 ov, .bool is]) (by simp [results, Tryz.results125, go_sem]) rfl ⟨rfl, ?_⟩
  exact Below.drew (Below.alloc (Below.refl _ _) (Nat.le_refl _) _)
theorem run_upto3 {P : Program} {t e : TypeId} {i : TypeInfo} (ht : P.underlying t = some (.slice e)) (hi : P.info? e = some i) (hc : P.cellsOf e = 3) (ao : Option Addr) (n cap j : Nat) (hj : j <= cap) (w : World) :
  (Instr.slice t (.slice ao n cap) none (some (.int .i64 (j : Int))) none).run P w = .ok (.slice ao j cap) w := by
 have e1 : (0 : Int) <= (j : Int) /\ (j : Int) <= (cap : Int) := by omega
 simp [Instr.slice, run_underlying ht, Instr.sliceBounds, go_sem, e1, run_sizeOf w hi, hc]
theorem drop_any {B : Nat} {w : World} {p : Nat} {S : Ex.St} {g cap : Nat} (h : SA B w p S g cap) (hn : 0 < S.st.length) :
  Calls Tryz.prog 126 #[.pointer (some ⟨p, 0, none⟩)] w fun e w' => e = .returned (.tuple #[]) /\ SA B w' p ⟨S.st.tail, S.oi, S.oe, S.va⟩ g cap /\ Below B w w' := by
 obtain ⟨m, hm⟩ : ∃ m, S.st.length = m + 1 := ⟨S.st.length - 1, by omega⟩
 have c0 := h.c0
 rw [hm] at c0
 have f0 := h.fz 0
 have HS := hide (h.pop hm).drew
 have HB := hide (((Below.refl B w).setCell (p := ⟨p, 0, none⟩) h.ge (.slice (some ⟨g, 0, none⟩) m cap)).drew)
 have hc := h.caps
 unfold maxLen at hc
 rw [hm] at hc
 obtain ⟨ii, hii, hy0, hy1, hy2⟩ := info_parts entInfo
 have hsl := fun w' => run_upto3 Tryz.underlying149 hii entCells (some ⟨g, 0, none⟩) (m + 1) cap m (by omega) w'
 have ei : ((m + 1 : Nat) : Int) - 1 = (m : Int) := by omega
 clear h hm hn hy0 hy1 hy2
 go_enter Tryz.func126, Tryz.ntmps126
 go_wp2
 go_region
 all_goals (try go_wp2)
 all_goals go_end0
 all_goals exact ⟨rfl, HS.out, HB.out⟩
theorem field_lv (a b : Int) (c : Bool) (w : World) : (Instr.field 148 (.agg #[.int .i64 a, .int .i64 b, .bool c]) 0).run Tryz.prog w = .ok (.int .i64 a) w := by kernel_rfl
theorem field_is (a b : Int) (c : Bool) (w : World) : (Instr.field 148 (.agg #[.int .i64 a, .int .i64 b, .bool c]) 2).run Tryz.prog w = .ok (.bool c) w := by kernel_rfl
theorem nl_even {l : Int} {o : Bool} (h : 0 <= l) (he : (l + 1) % 2 = (if o then 1 else 0)) : Ex.nl l o = l + 1 := by
 unfold Ex.nl; rw [if_pos he]
theorem nl_odd {l : Int} {o : Bool} (h : 0 <= l) (he : ¬ (l + 1) % 2 = (if o then 1 else 0)) : Ex.nl l o = l + 1 + 1 := by
 unfold Ex.nl; rw [if_neg he]; omega
theorem next_any {B : Nat} {w : World} {p : Nat} {S : Ex.St} {g cap : Nat} (h : SA B w p S g cap) (hn : 0 < S.st.length) (h0 : 0 <= (Ex.hd S.st).lv) (h1 : (Ex.hd S.st).lv <= 125) (x : Int) :
  Calls Tryz.prog 123 #[.pointer (some ⟨p, 0, none⟩), .int .i64 x] w fun e w' => e = .returned (.tuple #[.int .i64 (Ex.nl (Ex.hd S.st).lv (Ex.odd x)), .bool (Ex.can S (Ex.odd x))]) /\ Below w.heap.size w w' := by
 have HL := hide (last_any h hn)
 have hfl := field_lv
 have HW := hide (fun w' => way_any x w')
 have HO := hide (fun w' (hb : Below w.heap.size w w') => overflows_any (h.below hb))
 have HC := hide (show Ex.can S (Ex.odd x) = (decide (Ex.nl (Ex.hd S.st).lv (Ex.odd x) <= 125) && (S.oi == 0 && S.oe == 0)) from rfl)
 generalize Ex.can S (Ex.odd x) = cc at *
 generalize (S.oi == 0 && S.oe == 0) = q at *
 generalize (Ex.hd S.st).lv = l at *
 generalize (Ex.hd S.st).ov = ov at *
 generalize (Ex.hd S.st).is = is at *
 generalize Ex.odd x = o at *
 have hnl := Ex.nl_gt l o
 by_cases he : (l + 1) % 2 = (if o then 1 else 0)
 ·have e2 := nl_even h0 he
  rw [e2] at HC hnl ⊢
  have e1 : ((l + 1) % 2 != (if o then (1 : Int) else 0)) = false := by simp [he]
  generalize (if o then (1 : Int) else 0) = wy at *
  clear h hn e2
  by_cases h3 : l + 1 <= 125
  ·rw [decide_eq_true h3, Bool.true_and] at HC
   go_enter Tryz.func123, Tryz.ntmps123
   go_wp2_with (first
    | (go_at_call 125; refine HL.out.mono ?_; rintro e w1 ⟨rfl, hb1⟩)
    | (go_at_call 143; refine (HW.out _).mono ?_; rintro e w2 ⟨rfl, rfl⟩)
    | (go_at_call 128; refine (HO.out _ hb1).mono ?_; rintro e w2 ⟨rfl, rfl⟩))
   go_ret2
   exact ⟨by rw [HC.out]; simp, hb1⟩
  ·rw [decide_eq_false h3, Bool.false_and] at HC
   go_enter Tryz.func123, Tryz.ntmps123
   go_wp2_with (first
    | (go_at_call 125; refine HL.out.mono ?_; rintro e w1 ⟨rfl, hb1⟩)
    | (go_at_call 143; refine (HW.out _).mono ?_; rintro e w2 ⟨rfl, rfl⟩)
    | (go_at_call 128; refine (HO.out _ hb1).mono ?_; rintro e w2 ⟨rfl, rfl⟩))
   go_ret2
   exact ⟨by rw [HC.out]; rfl, hb1⟩
 ·have e2 := nl_odd h0 he
  rw [e2] at HC hnl ⊢
  have e1 : ((l + 1) % 2 != (if o then (1 : Int) else 0)) = true := by simp [he]
  generalize (if o then (1 : Int) else 0) = wy at *
  clear h hn e2
  by_cases h3 : l + 1 + 1 <= 125
  ·rw [decide_eq_true h3, Bool.true_and] at HC
   go_enter Tryz.func123, Tryz.ntmps123
   go_wp2_with (first
    | (go_at_call 125; refine HL.out.mono ?_; rintro e w1 ⟨rfl, hb1⟩)
    | (go_at_call 143; refine (HW.out _).mono ?_; rintro e w2 ⟨rfl, rfl⟩)
    | (go_at_call 128; refine (HO.out _ hb1).mono ?_; rintro e w2 ⟨rfl, rfl⟩))
   go_ret2
   exact ⟨by rw [HC.out]; simp, hb1⟩
  ·rw [decide_eq_false h3, Bool.false_and] at HC
   go_enter Tryz.func123, Tryz.ntmps123
   go_wp2_with (first
    | (go_at_call 125; refine HL.out.mono ?_; rintro e w1 ⟨rfl, hb1⟩)
    | (go_at_call 143; refine (HW.out _).mono ?_; rintro e w2 ⟨rfl, rfl⟩)
    | (go_at_call 128; refine (HO.out _ hb1).mono ?_; rintro e w2 ⟨rfl, rfl⟩))
   go_ret2
   exact ⟨by rw [HC.out]; rfl, hb1⟩
end Go.Proofs.YtfcoebbblfcdoaaGreatDoor

/- The stack's methods that tell and change: tell, embed, isolate, takenAs. -/
namespace Go.Proofs.YtfcoebbblfcdoaaGreatDoor
open Go.RowKit
set_option linter.unusedVariables false
set_option maxHeartbeats 1000000
set_option maxRecDepth 100000
theorem tell_any {B : Nat} {w : World} {p : Nat} {S : Ex.St} {g cap : Nat} (h : SA B w p S g cap) {b : Int} (hc : Ex.Chain b S.st) (x : Int) :
  Calls Tryz.prog 107 #[.pointer (some ⟨p, 0, none⟩), .int .i64 x] w fun e w' => e = .returned (.tuple #[.int .i64 (Ex.tl b S x), .int .i64 (Ex.ty S x)]) /\ Below w.heap.size w w' := by
 have HR := hide (removed_any x w)
 have HL := hide (last_any h hc.pos)
 cases hr : Ex.rm x with
 | true =>
  have e1 : Ex.tl b S x = -1 := by unfold Ex.tl; rw [if_pos hr]
  have e2 : Ex.ty S x = x := by unfold Ex.ty; rw [if_pos hr]
  rw [e1, e2]
  rw [hr] at HR
  clear e1 e2 hr h hc HL
  go_enter Tryz.func107, Tryz.ntmps107
  go_wp2_with (go_at_call 127; refine HR.out.mono ?_; rintro e w2 ⟨rfl, rfl⟩)
  go_ret2
  exact ⟨rfl, Below.refl _ _⟩
 | false =>
  rw [hr] at HR
  by_cases hx : x = 11
  ·have e1 : Ex.tl b S x = b := by unfold Ex.tl; rw [if_neg (by rw [hr]; decide), if_pos hx]
   have e2 : Ex.ty S x = x := by unfold Ex.ty; rw [if_neg (by rw [hr]; decide), if_pos hx]
   rw [e1, e2]
   have c0 := h.c0
   obtain ⟨t0, _, _⟩ := h.bot hc
   have hp := hc.pos
   have hcap := h.caps
   unfold maxLen at hcap
   generalize S.st.length = n at *
   have hpi : (0 : Int) < (n : Int) := by omega
   clear e1 e2 hr h hc HL
   subst hx
   go_enter Tryz.func107, Tryz.ntmps107
   go_wp2_with (go_at_call 127; refine HR.out.mono ?_; rintro e w2 ⟨rfl, rfl⟩)
   go_ret2
   exact ⟨rfl, Below.refl _ _⟩
  ·have e1 : Ex.tl b S x = (Ex.hd S.st).lv := by unfold Ex.tl; rw [if_neg (by rw [hr]; decide), if_neg hx]
   have e2 : Ex.ty S x = if (Ex.hd S.st).ov = 0 then x else (Ex.hd S.st).ov := by unfold Ex.ty; rw [if_neg (by rw [hr]; decide), if_neg hx]
   rw [e1, e2]
   have ho := hc.ov
   have hx2 : (x == 11) = false := beq_false_of_ne hx
   generalize (Ex.hd S.st).lv = l at *
   generalize (Ex.hd S.st).ov = ov at *
   generalize (Ex.hd S.st).is = is at *
   have ho3 : ov = 0 \/ ov = 1 \/ ov = 2 := by omega
   clear e1 e2 hr h hc hx ho
   rcases ho3 with rfl | rfl | rfl
   all_goals
    go_enter Tryz.func107, Tryz.ntmps107
    go_wp2_with (first
     | (go_at_call 127; refine HR.out.mono ?_; rintro e w2 ⟨rfl, rfl⟩)
     | (go_at_call 125; refine HL.out.mono ?_; rintro e w1 ⟨rfl, hb1⟩))
    go_ret2
    exact ⟨rfl, Below.alloc hb1 hb1.size _⟩
theorem step_append_ent {P : Program} (w : World) {ops : Array Oper} {o : Oper} {a : Act} {K : Act -> World -> Prop} {Q : Exit -> Act -> World -> Prop} {E : Prop} (hgd : o.guard = none) (s x : Operand) (t : TypeId)
  (ho : o.op = .call { callee := .builtin .append, args := #[s, x], argTypes := #[t, t] })
  (base : Nat) (e : TypeId) (i : TypeInfo) (z : Value) (ht : P.underlying t = some (.slice e)) (hi : P.info? e = some i) (hz : i.zero = some z)
  (hsize : i.size = 3) (hby : i.bytes = 24) (hzs : z.cells.size = 3)
  (v : Value) (n : Nat) (xs : List Value) (hs : a.eval s = v) (en : Ex.Ent) (hown : w.ownsRow base e 3 v n xs)
  (hx : a.eval x = .slice (some ⟨w.heap.size, 0, none⟩) 1 1)
  (hn : n <= 1000) (hbase : base <= w.heap.size)
  (h : ∀ v' w', w'.ownsRow base e 3 v' (n + 1) (xs ++ ec en) -> (w.alloc (.cells #[.int .i64 en.lv, .int .i64 en.ov, .bool en.is] e)).grownBy w' v.ownBlock -> K (a.put o.dst v') w') :
  if Region.wanted o (yielded ops a.tmps) = true then Oper.wp P o a (w.alloc (.cells #[.int .i64 en.lv, .int .i64 en.ov, .bool en.is] e)) K Q else E := by
 have hw : Region.wanted o (yielded ops a.tmps) = true := by simp [Region.wanted, hgd]
 rw [if_pos hw]
 have hown' := hown.alloc (.cells #[.int .i64 en.lv, .int .i64 en.ov, .bool en.is] e)
 refine wp_append_own _ s x t ho base e i z 3 24 ht hi hz hsize hby hzs (by decide) v n xs hs hown' ⟨w.heap.size, 0, none⟩ 1 1 (ec en) hx rfl ?_ ?_ (by unfold maxLen; omega) (by omega) (by simp; omega) (fun v' w' g1 g2 _ => h v' w' g1 g2)
 ·intro j u hj
  have hadd : (⟨w.heap.size, 0, none⟩ : Addr).add j = ⟨w.heap.size, j, none⟩ := by unfold Addr.add; split <;> simp_all
  rw [hadd]
  unfold World.cell?
  rw [heap_alloc_last]
  show (#[.int .i64 en.lv, .int .i64 en.ov, .bool en.is] : Array Value)[j]? = some u
  rw [<- hj]
  simp [ec]
 ·intro u hu
  simp only [ec, List.mem_cons, List.not_mem_nil, or_false] at hu
  rcases hu with rfl | rfl | rfl <;> simp [Value.oneCell']
theorem wpList_append_ent {P : Program} (w : World) {ops : Array Oper} {rest : List Oper} {o : Oper} {a : Act} {Q : Exit -> Act -> World -> Prop} (hgd : o.guard = none) (s x : Operand) (t : TypeId)
  (ho : o.op = .call { callee := .builtin .append, args := #[s, x], argTypes := #[t, t] })
  (base : Nat) (e : TypeId) (i : TypeInfo) (z : Value) (ht : P.underlying t = some (.slice e)) (hi : P.info? e = some i) (hz : i.zero = some z)
  (hsize : i.size = 3) (hby : i.bytes = 24) (hzs : z.cells.size = 3)
  (v : Value) (n : Nat) (xs : List Value) (hs : a.eval s = v) (en : Ex.Ent) (hown : w.ownsRow base e 3 v n xs)
  (g : Nat) (hg : g = w.heap.size) (hx : a.eval x = .slice (some ⟨g, 0, none⟩) 1 1)
  (hn : n <= 1000) (hbase : base <= w.heap.size)
  (h : ∀ v' w', w'.ownsRow base e 3 v' (n + 1) (xs ++ ec en) -> (w.alloc (.cells #[.int .i64 en.lv, .int .i64 en.ov, .bool en.is] e)).grownBy w' v.ownBlock -> wpList P ops Q rest (a.put o.dst v') w') :
  wpList P ops Q (o :: rest) a (w.alloc (.cells #[.int .i64 en.lv, .int .i64 en.ov, .bool en.is] e)) := by
 subst hg
 refine wpList_plain hgd fun K hK => ?_
 have h1 := step_append_ent (ops := ops) (E := False) (Q := Q) (K := K) w hgd s x t ho base e i z ht hi hz hsize hby hzs v n xs hs en hown hx hn hbase (fun v' w' g1 g2 => hK _ _ (h v' w' g1 g2))
 have hw : Region.wanted o (yielded ops a.tmps) = true := by simp [Region.wanted, hgd]
 rw [if_pos hw] at h1
 exact h1
theorem build_emb (l o : Int) (w : World) : (Instr.build 148 #[(0, .int .i64 l), (1, .int .i64 o)]).run Tryz.prog w = .ok (.agg #[.int .i64 l, .int .i64 o, .bool false]) w := run_build w 148 _ _ (by kernel_rfl)
theorem build_iso (l : Int) (w : World) : (Instr.build 148 #[(0, .int .i64 l), (2, .bool true)]).run Tryz.prog w = .ok (.agg #[.int .i64 l, .int .i64 0, .bool true]) w := run_build w 148 _ _ (by kernel_rfl)
theorem build_ent1 (x y : Int) (z : Bool) (w : World) : (Instr.buildSlice 149 1 #[(0, .agg #[.int .i64 x, .int .i64 y, .bool z])]).run Tryz.prog w = .ok (.slice (some ⟨w.heap.size, 0, none⟩) 1 1) (w.alloc (.cells #[.int .i64 x, .int .i64 y, .bool z] 148)) := by
 have hq := entInfo
 cases hi : Tryz.prog.info? 148 with
 | none => rw [hi] at hq; cases hq
 | some ie =>
  rw [hi] at hq
  simp only [Option.map_some, Option.some.injEq, Prod.mk.injEq] at hq
  refine run_buildSlice w 149 148 1 _ _ ie _ Tryz.underlying149 hi hq.1 (by rw [hq.2.1]; decide) (by rw [hq.2.1]; decide) ?_
  rw [hq.2.1]
  kernel_rfl
theorem below_push {B : Nat} {w w' : World} {g p : Nat} {o : Obj} {v : Value} (hB : B <= w.heap.size) (hg : (w.alloc o).grownBy w' (some g)) (hgB : B <= g) (hp : B <= p) : Below B w (w'.setCell ⟨p, 0, none⟩ v) :=
 (((Below.refl B w).alloc hB o).grown hg (by simp; omega) (fun j hj => by simp at hj; omega)).setCell (p := ⟨p, 0, none⟩) hp v
def Kc (p : Nat) (v : Value) (w : World) : Prop := w.cell? ⟨p, 0, none⟩ = some v /\ w.frozen? ⟨p, 0, none⟩ = false
theorem Kc.alloc {p : Nat} {v : Value} {w : World} (h : Kc p v w) (o : Obj) : Kc p v (w.alloc o) := by
 have hlt : p < w.heap.size := World.block_lt_of_cell? w _ h.1
 have hb := (Below.alloc (Below.refl w.heap.size w) (Nat.le_refl _) o).block p hlt
 exact ⟨(World.cell?_of_block (a := ⟨p, 0, none⟩) hb).trans h.1, (World.frozen?_of_block (a := ⟨p, 0, none⟩) hb).trans h.2⟩
theorem embed_any {B : Nat} {w : World} {p : Nat} {S : Ex.St} {g cap : Nat} (h : SA B w p S g cap) {b : Int} {k : Nat} (hok : Ex.Ok b S k) (hb : 0 <= b) (hb1 : b <= 1) (hk : k <= 17592186044416) (x : Int) :
  Calls Tryz.prog 104 #[.pointer (some ⟨p, 0, none⟩), .int .i64 x] w fun e w' => e = .returned (.tuple #[]) /\ (∃ g' cap', SA B w' p (Ex.emb S x) g' cap') /\ Below B w w' := by
 have hlo := hok.ch.lo
 have hhi := hok.ch.hi (by omega)
 have hlen := hok.ch.len
 have HN := hide (next_any h hok.ch.pos (by omega) hhi x)
 have HV := hide (fun w' => overrideOf_any x w')
 have hnl := Ex.nl_gt (Ex.hd S.st).lv (Ex.odd x)
 have hkoi := hok.oi
 have hkoe := hok.oe
 cases hc : Ex.can S (Ex.odd x) with
 | true =>
  have e1 : Ex.emb S x = ⟨⟨Ex.nl (Ex.hd S.st).lv (Ex.odd x), Ex.ovr x, false⟩ :: S.st, S.oi, S.oe, S.va⟩ := by unfold Ex.emb; rw [if_pos hc]
  rw [e1]
  rw [hc] at HN
  obtain ⟨ii, hii, hy0, hy1, hy2⟩ := info_parts entInfo
  have HII := hide hii
  have HY0 := hide hy0
  have HY1 := hide hy1
  have HY2 := hide hy2
  have hbd := build_emb
  have hbo := build_ent1
  have HA := hide h
  generalize hl : Ex.nl (Ex.hd S.st).lv (Ex.odd x) = l at *
  generalize Ex.ovr x = ov at *
  have hn1 : S.st.length <= 126 := by omega
  clear e1 hc hii hy0 hy1 hy2 h hl hok hlo hhi hlen hkoi hkoe
  go_enter Tryz.func104, Tryz.ntmps104
  go_wp2_with (go_at_call 123; refine HN.out.mono ?_; rintro e w1 ⟨rfl, hb1⟩)
  have HS := hide ((HA.out.below hb1).drew)
  have HB := hide (show Below B w w1.drew from (hb1.mono HA.out.size).drew)
  have c0 := HS.out.c0
  have f0 := HS.out.fz 0
  have np : ∀ o : Obj, (w1.alloc o).cell? ⟨p, 0, none⟩ = some (.slice (some ⟨g, 0, none⟩) S.st.length cap) := fun o => (Kc.alloc (w := w1) ⟨(HA.out.below hb1).c0, (HA.out.below hb1).fz 0⟩ o).1
  clear hb1 HN
  go_region_law (first
   | (go_simp; go_at_call 124; refine (HV.out _).mono ?_; rintro e w2 ⟨rfl, rfl⟩; go_simp)
   | (refine step_append_ent w1.drew rfl (.tmp 17) (.tmp 22) 149 rfl B 148 ii _ Tryz.underlying149 HII.out HY0.out HY1.out HY2.out rfl _ S.st.length _ rfl ⟨l, ov, false⟩ HS.out.own rfl (by omega) HS.out.size ?_; intro v' w' ho' hg'; obtain ⟨cp, fp⟩ := HS.out.grown hg'; have hb' := below_push (v := v') (p := p) HS.out.size hg' HS.out.lt.2.2 HS.out.ge; obtain ⟨g', cap', rfl, hsa⟩ := HS.out.push (e := ⟨l, ov, false⟩) ho' hg'))
  all_goals
   have HSA := hide hsa
   have HBB := hide (HB.out.trans hb')
   clear hsa hb' ho' hg' cp fp np c0 f0
   go_wp2
   go_end0
   exact ⟨rfl, ⟨g', cap', HSA.out⟩, HBB.out⟩
 | false =>
  rw [hc] at HN
  have hcf : ¬ Ex.can S (Ex.odd x) = true := by rw [hc]; decide
  by_cases h0 : S.oi = 0
  ·have e1 : Ex.emb S x = ⟨S.st, S.oi, S.oe + 1, S.va⟩ := by unfold Ex.emb; rw [if_neg hcf, if_pos h0]
   rw [e1]
   have HA := hide h
   generalize Ex.nl (Ex.hd S.st).lv (Ex.odd x) = l at *
   clear e1 hc hcf h hlo hhi hlen hok
   go_enter Tryz.func104, Tryz.ntmps104
   go_wp2_with fail
   refine HN.out.mono ?_
   rintro e w1 ⟨rfl, hb1⟩
   have hs := HA.out.below hb1
   have HB := hide (hb1.mono HA.out.size)
   have c1 := hs.c1
   rw [h0] at c1
   have c2 := hs.c2
   have f2 := hs.fz 2
   have HS := hide (hs.setOe (z := (S.oe : Int) + 1) (k := S.oe + 1) (by omega))
   have hge := hs.ge
   clear hs hb1 HN HA
   go_wp2
   go_end0
   exact ⟨rfl, ⟨g, cap, HS.out⟩, HB.out.setCell (p := ⟨p, 2, none⟩) hge _⟩
  ·have e1 : Ex.emb S x = S := by unfold Ex.emb; rw [if_neg hcf, if_neg h0]
   rw [e1]
   have HA := hide h
   generalize Ex.nl (Ex.hd S.st).lv (Ex.odd x) = l at *
   clear e1 hc hcf h hlo hhi hlen hok
   go_enter Tryz.func104, Tryz.ntmps104
   go_wp2_with fail
   refine HN.out.mono ?_
   rintro e w1 ⟨rfl, hb1⟩
   have HS := hide (HA.out.below hb1)
   have HB := hide (hb1.mono HA.out.size)
   have c1 := HS.out.c1
   generalize S.oi = oi at *
   have e0 : ((oi : Int) == 0) = false := beq_false_of_ne (by omega)
   clear hb1 HN HA
   go_wp2
   go_end0
   exact ⟨rfl, ⟨g, cap, HS.out⟩, HB.out⟩
theorem isolate_any {B : Nat} {w : World} {p : Nat} {S : Ex.St} {g cap : Nat} (h : SA B w p S g cap) {b : Int} {k : Nat} (hok : Ex.Ok b S k) (hb : 0 <= b) (hb1 : b <= 1) (hk : k <= 17592186044416) (x : Int) :
  Calls Tryz.prog 108 #[.pointer (some ⟨p, 0, none⟩), .int .i64 x] w fun e w' => e = .returned (.tuple #[]) /\ (∃ g' cap', SA B w' p (Ex.iso S (Ex.odd x)) g' cap') /\ Below B w w' := by
 have hlo := hok.ch.lo
 have hhi := hok.ch.hi (by omega)
 have hlen := hok.ch.len
 have HN := hide (next_any h hok.ch.pos (by omega) hhi x)
 have hkoi := hok.oi
 have hkva : S.va <= 126 := by have h1 := hok.va; have h2 := Ex.cn_le S.st; omega
 have hn1 : S.st.length <= 126 := by omega
 generalize Ex.odd x = o at *
 cases hc : Ex.can S o with
 | true =>
  have e1 : Ex.iso S o = ⟨⟨Ex.nl (Ex.hd S.st).lv o, 0, true⟩ :: S.st, S.oi, S.oe, S.va + 1⟩ := by unfold Ex.iso; rw [if_pos hc]
  rw [e1]
  rw [hc] at HN
  obtain ⟨ii, hii, hy0, hy1, hy2⟩ := info_parts entInfo
  have HII := hide hii
  have HY0 := hide hy0
  have HY1 := hide hy1
  have HY2 := hide hy2
  have hbd := build_iso
  have hbo := build_ent1
  have HA := hide h
  generalize Ex.nl (Ex.hd S.st).lv o = l at *
  clear e1 hc hii hy0 hy1 hy2 h hlo hhi hlen hok
  go_enter Tryz.func108, Tryz.ntmps108
  go_wp2_with fail
  refine HN.out.mono ?_
  rintro e w1 ⟨rfl, hb1⟩
  have hs := HA.out.below hb1
  have c3 := hs.c3
  have f3 := hs.fz 3
  have HS := hide (hs.setVa (z := (S.va : Int) + 1) (k := S.va + 1) (by omega))
  have HB := hide ((hb1.mono HA.out.size).setCell (p := ⟨p, 3, none⟩) HA.out.ge (.int .i64 ((S.va : Int) + 1)))
  obtain ⟨W, hW⟩ : ∃ W, w1.setCell ⟨p, 3, none⟩ (.int .i64 ((S.va : Int) + 1)) = W := ⟨_, rfl⟩
  rw [hW] at HS HB
  have c0 := HS.out.c0
  have f0 := HS.out.fz 0
  clear hs hb1 HN HA
  go_wp2_with (at_builtin; refine wpList_append_ent W rfl (.tmp 32) (.tmp 35) 149 rfl B 148 ii _ Tryz.underlying149 HII.out HY0.out HY1.out HY2.out rfl _ S.st.length _ rfl ⟨l, 0, true⟩ HS.out.own _ rfl rfl (by omega) HS.out.size ?_; intro v' w' ho' hg'; obtain ⟨cp, fp⟩ := HS.out.grown hg'; have hb' := below_push (v := v') (p := p) HS.out.size hg' HS.out.lt.2.2 HS.out.ge; obtain ⟨g', cap', rfl, hsa⟩ := HS.out.push (e := ⟨l, 0, true⟩) ho' hg')
  go_end0
  exact ⟨rfl, ⟨g', cap', hsa⟩, HB.out.trans hb'⟩
 | false =>
  rw [hc] at HN
  have e1 : Ex.iso S o = ⟨S.st, S.oi + 1, S.oe, S.va⟩ := by unfold Ex.iso; rw [if_neg (by rw [hc]; decide)]
  rw [e1]
  have HA := hide h
  generalize Ex.nl (Ex.hd S.st).lv o = l at *
  clear e1 hc h hlo hhi hlen hok
  go_enter Tryz.func108, Tryz.ntmps108
  go_wp2_with fail
  refine HN.out.mono ?_
  rintro e w1 ⟨rfl, hb1⟩
  have hs := HA.out.below hb1
  have HB := hide (hb1.mono HA.out.size)
  have c1 := hs.c1
  have f1 := hs.fz 1
  have HS := hide (hs.setOi (z := (S.oi : Int) + 1) (k := S.oi + 1) (by omega))
  have hge := hs.ge
  clear hs hb1 HN HA
  go_wp2
  refine bodyPost_ret (results_none rfl _ _ _) rfl ?_
  exact ⟨rfl, ⟨g, cap, HS.out⟩, HB.out.setCell (p := ⟨p, 1, none⟩) hge _⟩
theorem iso_taken {S : Ex.St} {r : List Int} {x : Int} (h : (S.oi == 0 && S.oe == 0) = false \/ 125 <= (Ex.hd S.st).lv) (o o' : Bool) : Ex.iso S o = Ex.iso S o' := by
 have hf : ∀ q, Ex.can S q = false := by
  intro q
  rcases h with h | h
  ·cases hc : Ex.can S q with
   | false => rfl
   | true =>
    obtain ⟨_, h2, h3⟩ := Ex.can_true hc
    simp [h2, h3] at h
  ·exact Ex.can_lv (by have := Ex.nl_gt (Ex.hd S.st).lv q; omega)
 unfold Ex.iso
 rw [hf o, hf o']
 rfl
theorem takenAs_any {B : Nat} {w : World} {p : Nat} {S : Ex.St} {g cap : Nat} (h : SA B w p S g cap) (hpos : 0 < S.st.length) (ao : Option Addr) (n cap0 : Nat) (c : List Int) (hr : Row .i64 w ao n cap0 c) (hn : n * 8 <= 140737488351232) (i : Nat) (hi : i < n) :
  Calls Tryz.prog 109 #[.pointer (some ⟨p, 0, none⟩), .slice ao n cap0, .int .i64 ((i + 1 : Nat) : Int), .int .i64 (Iso.partner c i : Int)] w fun e w' => (∃ y, e = .returned (.int .i64 y) /\ Ex.iso S (Ex.odd y) = Ex.iso S (Ex.fs 0 (c.drop (i + 1)) == 1)) /\ Below w.heap.size w w' := by
 have HO := hide (overflows_any h)
 have HL := hide (last_any h hpos)
 have hp1 := Iso.partner_gt c i
 have hp2 := Iso.partner_le c i (by rw [hr.len]; exact hi)
 rw [hr.len] at hp2
 have HBS := hide (fun w' (hb : Below w.heap.size w w') => base_ok ao n cap0 c (i + 1) (Iso.partner c i) w' (hr.below hb) hn (by omega) hp2)
 rw [Ex.base_fs] at HBS
 have hfl := field_lv
 have HT := hide (fun h => iso_taken (S := S) (r := []) (x := 0) h)
 generalize Ex.fs 0 (c.drop (i + 1)) = F at *
 generalize Iso.partner c i = q at *
 have hT : ∀ o, Ex.iso S o = Ex.iso S o := fun _ => rfl
 cases ho : (S.oi == 0 && S.oe == 0) with
 | false =>
  rw [ho] at HO
  have HE := hide (HT.out (.inl ho) (Ex.odd 20) (F == 1))
  clear ho h hr hn HT HBS hT HL
  go_enter Tryz.func109, Tryz.ntmps109
  go_wp2_with (go_at_call 128; refine HO.out.mono ?_; rintro e w2 ⟨rfl, rfl⟩)
  go_ret
  exact ⟨⟨20, rfl, HE.out⟩, Below.refl _ _⟩
 | true =>
  rw [ho] at HO
  by_cases hl : 125 <= (Ex.hd S.st).lv
  ·have HE := hide (HT.out (.inr hl) (Ex.odd 20) (F == 1))
   clear ho h hr hn HT HBS hT
   generalize (Ex.hd S.st).lv = l at *
   go_enter Tryz.func109, Tryz.ntmps109
   go_wp2_with (first
    | (go_at_call 128; refine HO.out.mono ?_; rintro e w2 ⟨rfl, rfl⟩)
    | (go_at_call 125; refine HL.out.mono ?_; rintro e w1 ⟨rfl, hb1⟩))
   go_ret
   exact ⟨⟨20, rfl, HE.out⟩, hb1⟩
  ·clear ho h hr hn HT hT
   generalize (Ex.hd S.st).lv = l at *
   by_cases hF : F = 1
   ·subst hF
    go_enter Tryz.func109, Tryz.ntmps109
    go_wp2_with (first
     | (go_at_call 128; refine HO.out.mono ?_; rintro e w2 ⟨rfl, rfl⟩)
     | (go_at_call 125; refine HL.out.mono ?_; rintro e w1 ⟨rfl, hb1⟩)
     | (go_at_call 41; refine (HBS.out _ hb1).mono ?_; rintro e w2 ⟨rfl, rfl⟩))
    go_ret
    exact ⟨⟨21, rfl, rfl⟩, hb1⟩
   ·have hF2 : (F == 1) = false := beq_false_of_ne hF
    rw [hF2]
    go_enter Tryz.func109, Tryz.ntmps109
    go_wp2_with (first
     | (go_at_call 128; refine HO.out.mono ?_; rintro e w2 ⟨rfl, rfl⟩)
     | (go_at_call 125; refine HL.out.mono ?_; rintro e w1 ⟨rfl, hb1⟩)
     | (go_at_call 41; refine (HBS.out _ hb1).mono ?_; rintro e w2 ⟨rfl, rfl⟩))
    go_ret
    exact ⟨⟨20, rfl, rfl⟩, hb1⟩
end Go.Proofs.YtfcoebbblfcdoaaGreatDoor
