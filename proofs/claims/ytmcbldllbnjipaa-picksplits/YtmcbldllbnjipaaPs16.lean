/- slices.Sort of a list that the call owns. -/
import Derived.Test.YtmcbldllbnjipaaArgs
import Derived.Test.YtmcbldllbnjipaaKeep
import Derived.Test.YtmcbldllbnjipaaInts
import Derived.Shelf.SortG.Plain
import Derived.Shelf.SortG.SortNone
import Derived.Shelf.SlGeneric
import Derived.Shelf.Lay
import Derived.Ground.SlgnProg
import Derived.Sort.OwnSortedInts
namespace Go.Proofs
open Go.Shelf Go.RowKit Go.Lib Go.Sort
shelf_lay_g SlLaysN.n53 Slgn 53 at Try 21 as Try.sortI
end Go.Proofs
namespace Go.Proofs.Ytmcbldllbnjipaa
open Go.Shelf Go.RowKit Go.Lib Go.Sort
set_option linter.unusedVariables false
set_option maxHeartbeats 1000000
set_option maxRecDepth 100000
theorem sort_any {w : World} {base n : Nat} {v : Value} {zs : List Int} (h : w.ownsRow base 3 1 v n (zs.map (Value.int .i64))) (hb : base ≤ w.heap.size) (hn : n < 4611686018427387904) :
    Calls Try.prog 21 #[v] w fun e w' => e = .returned (.tuple #[]) ∧ w'.ownsRow base 3 1 v n ((zs.mergeSort fun x y => decide (x ≤ y)).map (Value.int .i64)) ∧ Below base w w' := by
  have hl : zs.length = n := by have := h.1; simpa using this
  have hml : (zs.mergeSort fun x y => decide (x ≤ y)).length = zs.length := List.length_mergeSort _
  rcases h.2 with ⟨rfl, rfl⟩ | ⟨g, cap, cur, rfl, hbs, hg, hle, hm, hsz, ht⟩
  · have hz : zs = [] := List.eq_nil_of_length_eq_zero hl
    have hcon := AnyG.slices_Sort_int_none Try.sortI none 0 w
    change Calls Try.prog 21 _ _ _ at hcon
    refine hcon.mono ?_
    rintro e w' ⟨rfl, rfl⟩
    subst hz
    exact ⟨rfl, by simpa using h, Below.refl _ _⟩
  · have hcon := AnyG.slices_Sort_int Try.sortI g 0 cap zs w (holds_of_blockI hg (by rw [← ht, hl, Nat.mul_one])) (Array.getElem?_eq_some_iff.1 hg).1 (by omega)
    change Calls Try.prog 21 _ _ _ at hcon
    rw [hl] at hcon
    refine hcon.mono ?_
    rintro e w' ⟨rfl, q, os, rfl⟩
    refine ⟨rfl, ?_, ?_⟩
    · have := ownsRow_sortedI (w := w) (base := base) (g := g) (cap := cap) (n := q) (os := os) (ss := zs) hml hbs hg (by rw [hl]; exact hle) hm hsz
      rw [hl] at this
      exact this
    · exact (Below.refl base w).grown (grownBy_sortedI (w := w) (g := g) (n := q) (os := os) _) hb (fun j hj => by cases hj; exact hbs)
end Go.Proofs.Ytmcbldllbnjipaa
