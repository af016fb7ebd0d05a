/- What a call writes: the blocks of one object alone (its footprint), and new ones. -/
import Derived.Test.YthhfgcpflclflaaKeep
import Derived.Test.YthhfgcpflclflaaArgs
namespace Go.Proofs.Ythhfgcpflclflaa
open Go.RowKit
set_option linter.unusedVariables false
/-- Blocks out of F alone are written; what is new may be anything. -/
structure Mod (F : Nat → Prop) (X Y : World) : Prop where
  os : Y.os = X.os
  tape : Y.tape = X.tape
  output : Y.output = X.output
  size : X.heap.size ≤ Y.heap.size
  block : ∀ k, k < X.heap.size → ¬ F k → Y.heap[k]? = X.heap[k]?
section
variable {F G : Nat → Prop} {X Y Z : World}
theorem Mod.refl (F : Nat → Prop) (X : World) : Mod F X X := ⟨rfl, rfl, rfl, Nat.le_refl _, fun _ _ _ => rfl⟩
theorem Mod.mono (h : Mod F X Y) (hG : ∀ k, k < X.heap.size → F k → G k) : Mod G X Y := ⟨h.os, h.tape, h.output, h.size, fun k hk hn => h.block k hk fun q => hn (hG k hk q)⟩
/-- One after the other: what the second writes is of the first one's footprint, or new. -/
theorem Mod.trans (h : Mod F X Y) (k : Mod G Y Z) (hG : ∀ i, G i → F i ∨ X.heap.size ≤ i) : Mod F X Z :=
  ⟨k.os.trans h.os, k.tape.trans h.tape, k.output.trans h.output, Nat.le_trans h.size k.size, fun i hi hn =>
    (k.block i (Nat.lt_of_lt_of_le hi h.size) fun q => by rcases hG i q with g | g; exact hn g; omega).trans (h.block i hi hn)⟩
theorem Mod.of_below {B : Nat} (h : Below B X Y) (hF : ∀ k, B ≤ k → k < X.heap.size → F k) : Mod F X Y := ⟨h.os, h.tape, h.output, h.size, fun k hk hn => h.block k (by
  rcases Nat.lt_or_ge k B with g | g
  · exact g
  · exact absurd (hF k g hk) hn)⟩
theorem Mod.of_ko (h : KO X Y) : Mod F X Y := Mod.of_below h fun k h1 h2 => by omega
theorem Mod.below {B : Nat} (h : Mod F X Y) (hB : B ≤ X.heap.size) (hF : ∀ k, F k → B ≤ k) : Below B X Y :=
  ⟨h.os, h.tape, h.output, h.size, fun k hk => h.block k (by omega) fun q => by have := hF k q; omega⟩
theorem Mod.alloc (h : Mod F X Y) (o : Obj) : Mod F X (Y.alloc o) := h.trans (G := fun _ => False) (Mod.of_ko (KO.alloc (KO.refl _) o)) fun _ q => q.elim
theorem Mod.set (h : Mod F X Y) {p : Addr} (hp : F p.block ∨ X.heap.size ≤ p.block) (v : Value) : Mod F X (Y.setCell p v) := by
  have hb := Below.refl 0 Y
  exact ⟨h.os, h.tape, h.output, by show X.heap.size ≤ (Y.setCell p v).heap.size; simp [World.setCell]; exact h.size, fun k hk hn =>
    (Below.heap_setCell Y p v k (by rintro rfl; rcases hp with g | g; exact hn g; omega)).trans (h.block k hk hn)⟩
/-- What lies outside of the footprint lies as it lay. -/
theorem Mod.cell (h : Mod F X Y) {a : Addr} {v : Value} (hF : ¬ F a.block) (hv : X.cell? a = some v) : Y.cell? a = some v := by
  have hl := World.block_lt_of_cell? X a hv
  rw [World.cell?_of_block (w := X) (h.block _ hl hF)]
  exact hv
theorem Mod.row {k : IntKind} {ao : Option Addr} {n cap : Nat} {zs : List Int} (h : Mod F X Y) (hr : Row k X ao n cap zs) (hF : ∀ b off, ao = some ⟨b, off, none⟩ → ¬ F b) : Row k Y ao n cap zs :=
  ⟨hr.len, hr.le, hr.max, fun h0 => by
    obtain ⟨b, off, e1, e2, e3⟩ := hr.cells h0
    exact ⟨b, off, e1, Nat.lt_of_lt_of_le e2 h.size, fun i hi => h.cell (by exact hF b off e1) (e3 i hi)⟩, hr.nil⟩
theorem Mod.owns {base e size n : Nat} {v : Value} {xs : List Value} (h : Mod F X Y) (ho : X.ownsRow base e size v n xs) (hF : ∀ g, v.ownBlock = some g → ¬ F g) : Y.ownsRow base e size v n xs := by
  refine ⟨ho.1, ?_⟩
  rcases ho.2 with hn | ⟨g, cap, cur, rfl, hbs, hg, rest⟩
  · exact .inl hn
  · exact .inr ⟨g, cap, cur, rfl, hbs, (h.block g (Array.getElem?_eq_some_iff.1 hg).1 (hF g rfl)).trans hg, rest⟩
end
end Go.Proofs.Ythhfgcpflclflaa
