/- Many cells of a block written one behind the other: rows of elements of several cells, blocks that are known whole. -/
import Derived.Test.YthhfgcpflclflaaFoot
import Derived.Test.YthhfgcpflclflaaCells
import Derived.Deep.MidRow
namespace Go.Proofs.Ythhfgcpflclflaa
open Go.RowKit
set_option linter.unusedVariables false
/-- A list of which a stretch was written anew. -/
def sets {α : Type} : List α → Nat → List α → List α
  | xs, _, [] => xs
  | xs, o, v :: vs => sets (xs.set o v) (o + 1) vs
theorem sets_len {α : Type} : ∀ (vs : List α) (xs : List α) (o : Nat), (sets xs o vs).length = xs.length
  | [], _, _ => rfl
  | v :: vs, xs, o => by rw [sets, sets_len vs]; simp
theorem sets_get {α : Type} : ∀ (vs : List α) (xs : List α) (o j : Nat), (sets xs o vs)[j]? = if o ≤ j ∧ j < o + vs.length ∧ j < xs.length then vs[j - o]? else xs[j]?
  | [], xs, o, j => by rw [sets, if_neg (by simp; omega)]
  | v :: vs, xs, o, j => by
    rw [sets, sets_get vs]
    simp only [List.length_set, List.length_cons]
    by_cases h1 : o + 1 ≤ j ∧ j < o + 1 + vs.length ∧ j < xs.length
    · rw [if_pos h1, if_pos (by omega)]
      obtain ⟨k, hk⟩ : ∃ k, j - o = k + 1 := ⟨j - o - 1, by omega⟩
      rw [hk, show j - (o + 1) = k from by omega]
      rfl
    · rw [if_neg h1, List.getElem?_set]
      by_cases h2 : o = j
      · subst h2
        rw [if_pos rfl]
        by_cases h3 : o < xs.length
        · rw [if_pos h3, if_pos (by omega), Nat.sub_self]; rfl
        · rw [if_neg h3, if_neg (by omega), List.getElem?_eq_none (by omega)]
      · rw [if_neg h2, if_neg (by omega)]
theorem sets_all {α : Type} {xs vs : List α} (h : vs.length = xs.length) : sets xs 0 vs = vs := by
  apply List.ext_getElem?
  intro j
  rw [sets_get]
  by_cases hj : j < xs.length
  · rw [if_pos ⟨Nat.zero_le _, by omega, hj⟩, Nat.sub_zero]
  · rw [if_neg (by omega), List.getElem?_eq_none (by omega), List.getElem?_eq_none (by omega)]
section
variable {α : Type} {f : α → List Value} {k : Nat}
theorem fm_len : ∀ {l : List α}, (∀ x ∈ l, (f x).length = k) → (l.flatMap f).length = l.length * k
  | [], _ => by simp
  | a :: l, h => by
    rw [List.flatMap_cons, List.length_append, h a (by simp), fm_len (l := l) fun x hx => h x (by simp [hx])]
    simp [Nat.succ_mul]; omega
theorem fm_at {d : α} : ∀ {l : List α}, (∀ x ∈ l, (f x).length = k) → ∀ {i j : Nat}, i < l.length → j < k → (l.flatMap f)[i * k + j]? = (f (l.getD i d))[j]?
  | [], _, i, j, h, _ => by simp at h
  | a :: l, hf, 0, j, _, hj => by
    rw [List.flatMap_cons, Nat.zero_mul, Nat.zero_add, List.getElem?_append_left (by rw [hf a (by simp)]; exact hj)]
    rfl
  | a :: l, hf, i + 1, j, h, hj => by
    have ha := hf a (by simp)
    rw [List.flatMap_cons, List.getElem?_append_right (by rw [ha, Nat.succ_mul]; omega), ha, show (i + 1) * k + j - k = i * k + j from by rw [Nat.succ_mul]; omega]
    exact fm_at (l := l) (fun x hx => hf x (by simp [hx])) (by simpa using h) hj
theorem fm_set {l : List α} (hf : ∀ x ∈ l, (f x).length = k) {i : Nat} {x : α} (hx : (f x).length = k) (hi : i < l.length) : sets (l.flatMap f) (i * k) (f x) = (l.set i x).flatMap f := by
  have hs : ∀ y ∈ l.set i x, (f y).length = k := fun y hy => by
    obtain ⟨j, hj, e⟩ := List.mem_iff_getElem.1 hy
    rw [List.getElem_set] at e
    split at e
    · exact e ▸ hx
    · exact hf y (e ▸ List.getElem_mem _)
  have hl1 := fm_len hf
  have hl2 := fm_len hs
  rw [List.length_set] at hl2
  apply List.ext_getElem?
  intro j
  rw [sets_get]
  by_cases hj : j < l.length * k
  · have hk : 0 < k := by
      rcases Nat.eq_zero_or_pos k with h0 | h0
      · rw [h0] at hj; simp at hj
      · exact h0
    have hq : j / k < l.length := Nat.div_lt_of_lt_mul (by rw [Nat.mul_comm]; exact hj)
    have hm : j % k < k := Nat.mod_lt _ hk
    have he : j / k * k + j % k = j := by rw [Nat.mul_comm]; exact Nat.div_add_mod j k
    have h1 := fm_at (d := x) hf hq hm
    have h2 := fm_at (d := x) hs (i := j / k) (by rw [List.length_set]; exact hq) hm
    rw [he] at h1 h2
    rw [h2]
    by_cases hji : j / k = i
    · have hle : i * k ≤ j := by rw [← he, hji]; omega
      have hlt : j < i * k + k := by rw [← he, hji]; omega
      rw [if_pos ⟨hle, by rw [hx]; exact hlt, by rw [hl1]; exact hj⟩]
      have e3 : (l.set i x).getD (j / k) x = x := by rw [hji]; simp [List.getD, hi]
      have e4 : j - i * k = j % k := by rw [← hji]; omega
      rw [e3, e4]
    · have hno : ¬ (i * k ≤ j ∧ j < i * k + (f x).length ∧ j < (l.flatMap f).length) := by
        rintro ⟨a, b, _⟩
        rw [hx] at b
        apply hji
        have h3 : i ≤ j / k := (Nat.le_div_iff_mul_le hk).2 a
        have h4 : j / k < i + 1 := (Nat.div_lt_iff_lt_mul hk).2 (by rw [Nat.succ_mul]; exact b)
        omega
      rw [if_neg hno, h1]
      have e3 : (l.set i x).getD (j / k) x = l.getD (j / k) x := by simp only [List.getD, List.getElem?_set_ne (Ne.symm hji)]
      rw [e3]
  · rw [if_neg (by rw [hl1]; omega), List.getElem?_eq_none (by omega), List.getElem?_eq_none (by omega)]
end
/-- A row of the call's own, a stretch of its cells written. -/
theorem owns_sets {base e size n g cap : Nat} : ∀ (vs : List Value) {w : World} {xs : List Value} (o : Nat), w.ownsRow base e size (.slice (some ⟨g, 0, none⟩) n cap) n xs → (w.setCells g o vs).ownsRow base e size (.slice (some ⟨g, 0, none⟩) n cap) n (sets xs o vs)
  | [], _, _, _, h => h
  | v :: vs, w, xs, o, h => owns_sets vs (o + 1) ((h.stored o v).1)
theorem Mod.cells {F : Nat → Prop} {X : World} {b : Nat} : ∀ (vs : List Value) {Y : World} (o : Nat), Mod F X Y → (F b ∨ X.heap.size ≤ b) → Mod F X (Y.setCells b o vs)
  | [], _, _, h, _ => h
  | v :: vs, Y, o, h, hb => Mod.cells vs (o + 1) (h.set (p := ⟨b, o, none⟩) hb v) hb
theorem size_setCells (b : Nat) : ∀ (vs : List Value) (o : Nat) (w : World), (w.setCells b o vs).heap.size = w.heap.size
  | [], _, _ => rfl
  | v :: vs, o, w => by rw [World.setCells, size_setCells b vs]; simp [World.setCell]
theorem KO.cells {w w' : World} (h : KO w w') {b o : Nat} (vs : List Value) (hb : w.heap.size ≤ b) : KO w (w'.setCells b o vs) :=
  ((Mod.of_ko (F := fun _ => False) h).cells vs o (.inr hb)).below (Nat.le_refl _) fun _ q => q.elim
/-- A block whose cells are known, a stretch of them written. -/
theorem blk_sets {g : Nat} {t : TypeId} {fr : Nat × Nat} : ∀ (vs : List Value) {w : World} {cs : List Value} (o : Nat), w.heap[g]? = some (.cells cs.toArray t fr) → (w.setCells g o vs).heap[g]? = some (.cells (sets cs o vs).toArray t fr)
  | [], _, _, _, h => h
  | v :: vs, w, cs, o, h => by
    rw [World.setCells, sets]
    refine blk_sets vs (o + 1) ?_
    obtain ⟨hlt, hk⟩ := Array.getElem?_eq_some_iff.1 h
    show (w.heap.modify g _)[g]? = _
    rw [Array.getElem?_eq_getElem (by rw [Array.size_modify]; exact hlt), Array.getElem_modify_self, hk]
    simp
theorem blk_range {w : World} {g : Nat} {t : TypeId} {fr : Nat × Nat} {cs : List Value} (h : w.heap[g]? = some (.cells cs.toArray t fr)) (o : Nat) (vs : List Value) (hv : ∀ j v, vs[j]? = some v → cs[o + j]? = some v) : w.rangeAt g o vs := fun j v hj => by
  rw [World.cell?, h]
  simpa using hv j v hj
theorem blk_there {w : World} {g : Nat} {t : TypeId} {cs : List Value} (h : w.heap[g]? = some (.cells cs.toArray t (0, 0))) (o n : Nat) (hn : o + n ≤ cs.length) : w.there g o n := fun j hj => by
  constructor
  · rw [World.cell?, h]
    simp [show o + j < cs.length from by omega]
  · simp [World.frozen?, h]
/-- What lies of a row of the call's own. -/
theorem owns_range {w : World} {base e size n g cap : Nat} {xs vs : List Value} (h : w.ownsRow base e size (.slice (some ⟨g, 0, none⟩) n cap) n xs) (o : Nat) (hv : ∀ j v, vs[j]? = some v → xs[o + j]? = some v) : w.rangeAt g o vs := fun j v hj => by
  have h1 := hv j v hj
  have hl := (List.getElem?_eq_some_iff.1 h1).1
  rw [h.cellAt (o + j) (by rw [← h.1]; exact hl)]
  exact h1
theorem owns_there {w : World} {base e size n g cap : Nat} {xs : List Value} (h : w.ownsRow base e size (.slice (some ⟨g, 0, none⟩) n cap) n xs) (o k : Nat) (hk : o + k ≤ n * size) : w.there g o k := fun j hj =>
  ⟨by rw [h.cellAt (o + j) (by omega), List.getElem?_eq_getElem (by rw [h.1]; omega)]; rfl, h.frozenAt _⟩
theorem range_mod {F : Nat → Prop} {X Y : World} (h : Mod F X Y) {b o : Nat} {cs : List Value} (hF : ¬ F b) (hr : X.rangeAt b o cs) : Y.rangeAt b o cs := fun j v hj => h.cell (a := ⟨b, o + j, none⟩) hF (hr j v hj)
theorem there_mod {F : Nat → Prop} {X Y : World} (h : Mod F X Y) {b o n : Nat} (hF : ¬ F b) (hr : X.there b o n) : Y.there b o n := fun j hj => by
  obtain ⟨h1, h2⟩ := hr j hj
  obtain ⟨u, hu⟩ := Option.isSome_iff_exists.1 h1
  have hl := World.block_lt_of_cell? X _ hu
  have hb := h.block b hl hF
  refine ⟨by rw [h.cell (a := ⟨b, o + j, none⟩) hF hu]; rfl, ?_⟩
  rw [← h2]
  unfold World.frozen?
  rw [hb]
/-- One struct or array in a block of its own, as a row of one. -/
theorem ce_block {w : World} {g size : Nat} {t : TypeId} {fr : Nat × Nat} {cs : List Value} (h : w.heap[g]? = some (.cells cs.toArray t fr)) (hl : cs.length = size) : CE w size (some ⟨g, 0, none⟩) 1 1 cs :=
  ⟨by rw [hl, Nat.one_mul], Nat.le_refl _, by unfold maxLen; omega, fun ad e j u hj => by
    cases e
    have hadd : (⟨g, 0, none⟩ : Addr).add j = ⟨g, j, none⟩ := by unfold Addr.add; split <;> simp_all
    rw [hadd, World.cell?, h]
    simpa using hj, fun e => by cases e⟩
end Go.Proofs.Ythhfgcpflclflaa
