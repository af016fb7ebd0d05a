/- A list of numbers and one of types, that a law lays place by place. -/
import Derived.Test.YtkkmifpdhcdkpaaDoorWorks10
namespace Go.Proofs.YtkkmifpdhcdkpaaDoor
open Go.RowKit
set_option linter.unusedVariables false
set_option maxHeartbeats 1000000
set_option maxRecDepth 100000
theorem infoRune : (Tryd.prog.info? 21).map (fun i => (i.zero, i.size, i.bytes)) = some (some (.int .i32 0), 1, 4) := by kernel_rfl
structure LT (w0 : World) (vl vt : Value) (nl nt : Nat) (l t : List Int) (w : World) : Prop where
  old : Below w0.heap.size w0 w
  ol : w.ownsRow w0.heap.size 21 1 vl nl (l.map (Value.int .i32))
  ot : w.ownsRow w0.heap.size 3 1 vt nt (t.map (Value.int .i64))
section
variable {w0 : World} {vl vt : Value} {nl nt : Nat} {l t : List Int} {w : World}
theorem LT.pushL (h : LT w0 vl vt nl nt l t w) {x : Int} {o : Obj} {v' : Value} {w' : World} (ho : w'.ownsRow w0.heap.size 21 1 v' (nl + 1) (l.map (Value.int .i32) ++ [.int .i32 x])) (hg : (w.alloc o).grownBy w' vl.ownBlock) : LT w0 v' vt (nl + 1) nt (l ++ [x]) t w' := by
  refine ⟨Below.grown (KO.alloc h.old o) hg (by simp; have := h.old.size; omega) (fun j hj => (h.ol.lt j hj).1), ?_, (h.ot.alloc o).kept hg (owns_apart h.ot h.ol (by decide))⟩
  rw [List.map_append]; exact ho
theorem LT.pushT (h : LT w0 vl vt nl nt l t w) {x : Int} {o : Obj} {v' : Value} {w' : World} (ho : w'.ownsRow w0.heap.size 3 1 v' (nt + 1) (t.map (Value.int .i64) ++ [.int .i64 x])) (hg : (w.alloc o).grownBy w' vt.ownBlock) : LT w0 vl v' nl (nt + 1) l (t ++ [x]) w' := by
  refine ⟨Below.grown (KO.alloc h.old o) hg (by simp; have := h.old.size; omega) (fun j hj => (h.ot.lt j hj).1), (h.ol.alloc o).kept hg (owns_apart h.ol h.ot (by decide)), ?_⟩
  rw [List.map_append]; exact ho
end
theorem one_new (w : World) (a : Value) (t : TypeId) : ∀ (j : Nat) (u : Value), [a][j]? = some u → (w.alloc (.cells #[a] t)).cell? ((⟨w.heap.size, 0, none⟩ : Addr).add j) = some u := by
  intro j u hj
  have hadd : (⟨w.heap.size, 0, none⟩ : Addr).add j = ⟨w.heap.size, j, none⟩ := by unfold Addr.add; split <;> simp_all
  rw [hadd, World.cell?_alloc_mark]
  rw [← hj]
  simp
/-- One value of one cell is appended. -/
theorem wpList_append_one {P : Program} (w : World) {ops : Array Oper} {rest : List Oper} {o : Oper} {a : Act} {Q : Exit → Act → World → Prop} (hgd : o.guard = none) (s x : Operand) (t : TypeId)
    (ho : o.op = .call { callee := .builtin .append, args := #[s, x], argTypes := #[t, t] })
    (base : Nat) (e : TypeId) (i : TypeInfo) (z : Value) (bytes : Nat) (ht : P.underlying t = some (.slice e)) (hi : P.info? e = some i) (hz : i.zero = some z)
    (hsize : i.size = 1) (hby : i.bytes = bytes) (hzs : z.cells.size = 1)
    (v : Value) (n : Nat) (xs : List Value) (hs : a.eval s = v) (p : Value) (hown : w.ownsRow base e 1 v n xs)
    (g : Nat) (hg : g = w.heap.size) (hx : a.eval x = .slice (some ⟨g, 0, none⟩) 1 1) (h1 : p.oneCell' = true)
    (hn : n ≤ 100000) (hb8 : bytes ≤ 8) (hbase : base ≤ w.heap.size)
    (h : ∀ v' w', w'.ownsRow base e 1 v' (n + 1) (xs ++ [p]) → (w.alloc (.cells #[p] e)).grownBy w' v.ownBlock → wpList P ops Q rest (a.put o.dst v') w') :
    wpList P ops Q (o :: rest) a (w.alloc (.cells #[p] e)) := by
  subst hg
  have hnb : (n + 1) * bytes ≤ 140737488355328 := by
    have : (n + 1) * bytes ≤ 100001 * 8 := Nat.mul_le_mul (by omega) hb8
    omega
  refine wpList_append_own _ hgd s x t ho base e i z 1 bytes ht hi hz hsize hby hzs (by decide) v n xs hs (hown.alloc _) ⟨w.heap.size, 0, none⟩ 1 1 [p] hx rfl (one_new w p e) (by intro u hu; simp at hu; rw [hu]; exact h1) (by unfold maxLen; omega) hnb (by simp; omega) (fun v' w' g1 g2 _ => h v' w' g1 g2)
end Go.Proofs.YtkkmifpdhcdkpaaDoor
