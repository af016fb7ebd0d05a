/- Complex numbers of whole parts: how they are compared, added, taken from one another; rows of them. -/
import Derived.Test.YtbbhefiibcbbfaaFl
import Derived.Test.YtbbhefiibcbbfaaVrow
import Derived.Test.YtbbhefiibcbbfaaInts
import Derived.Test.YtbbhefiibcbbfaaSq15
namespace Go.Proofs.Ytbbhefiibcbbfaa
open Go.RowKit
set_option linter.unusedVariables false
namespace Fl
theorem eq_fb {a b : Int} (ha : a.natAbs < 2 ^ 53) (hb : b.natAbs < 2 ^ 53) : (FloatKind.f64.format.order (fb a) (fb b) == some .eq) = decide (a = b) := by
  rw [order_fb ha hb]
  show (some (compareOfLessAndEq a b) == some Ordering.eq) = _
  unfold compareOfLessAndEq
  rcases Int.lt_trichotomy a b with q | q | q
  · rw [if_pos q, decide_eq_false (by omega)]; rfl
  · subst q; rw [if_neg (Int.lt_irrefl _), if_pos rfl, decide_eq_true rfl]; rfl
  · rw [if_neg (by omega), if_neg (by omega), decide_eq_false (by omega)]; rfl
theorem ne_fb {a b : Int} (ha : a.natAbs < 2 ^ 53) (hb : b.natAbs < 2 ^ 53) : (FloatKind.f64.format.order (fb a) (fb b) != some .eq) = !decide (a = b) := by
  unfold bne
  rw [eq_fb ha hb]
theorem ne_zero {a : Int} (ha : a.natAbs < 2 ^ 53) : (FloatKind.f64.format.order (fb a) 0 != some .eq) = !decide (a = 0) := by
  have := ne_fb ha (b := 0) (by decide)
  rwa [fb_zero] at this
theorem ne_one {a : Int} (ha : a.natAbs < 2 ^ 53) : (FloatKind.f64.format.order (fb a) 4607182418800017408 != some .eq) = !decide (a = 1) := by
  have := ne_fb ha (b := 1) (by decide)
  rwa [fb_one] at this
theorem ne_neg {a : Int} (ha : a.natAbs < 2 ^ 53) : (FloatKind.f64.format.order (fb a) 13830554455654793216 != some .eq) = !decide (a = -1) := by
  have := ne_fb ha (b := -1) (by decide)
  rwa [fb_neg] at this
section
variable {P : Program} (w : World) (t : TypeId) {a b c d : Int} (ha : a.natAbs < 2 ^ 53) (hb : b.natAbs < 2 ^ 53) (hc : c.natAbs < 2 ^ 53) (hd : d.natAbs < 2 ^ 53)
include ha hb hc hd
theorem run_cadd (h1 : (a + c).natAbs < 2 ^ 53) (h2 : (b + d).natAbs < 2 ^ 53) : (binOp .add t (.complex .f64 (fb a) (fb b)) (.complex .f64 (fb c) (fb d))).run P w = .ok (.complex .f64 (fb (a + c)) (fb (b + d))) w := by
  refine run_complex_sum w .add (.inl rfl) t .f64 _ _ _ _ _ _ ?_
  unfold cSumBits
  rw [add_fb ha hc h1, add_fb hb hd h2]
  rfl
theorem run_csub (h1 : (a - c).natAbs < 2 ^ 53) (h2 : (b - d).natAbs < 2 ^ 53) : (binOp .sub t (.complex .f64 (fb a) (fb b)) (.complex .f64 (fb c) (fb d))).run P w = .ok (.complex .f64 (fb (a - c)) (fb (b - d))) w := by
  refine run_complex_sum w .sub (.inr rfl) t .f64 _ _ _ _ _ _ ?_
  unfold cSumBits
  rw [sub_fb ha hc h1, sub_fb hb hd h2]
  rfl
end
end Fl
/-- Spots whose columns are below a bound. -/
def Wz (B : Nat) (Z : List (Int × Int)) : Prop := ∀ i, (Z.getD i (0, 0)).1.natAbs < B ∧ (Z.getD i (0, 0)).2.natAbs ≤ 1
/-- A row of spots. -/
def ZR (w : World) (ao : Option Addr) (n cap : Nat) (Z : List (Int × Int)) : Prop := VR (cv Fl.fb) (0, 0) w ao n cap Z
theorem ZR.len {w : World} {ao : Option Addr} {n cap : Nat} {Z : List (Int × Int)} (h : ZR w ao n cap Z) : Z.length = n := VR.len h
theorem ZR.room {w : World} {ao : Option Addr} {n cap : Nat} {Z : List (Int × Int)} (h : ZR w ao n cap Z) : n ≤ 9223372036854775807 := by
  have := Nat.le_trans (VR.le h) (VR.max h)
  unfold maxLen at this
  omega
theorem ZR.below {w w' : World} {ao : Option Addr} {n cap : Nat} {Z : List (Int × Int)} (h : ZR w ao n cap Z) (hb : KO w w') : ZR w' ao n cap Z := VR.below h hb
theorem ZR.at {w : World} {ao : Option Addr} {n cap : Nat} {Z : List (Int × Int)} (h : ZR w ao n cap Z) (h0 : 0 < n) : ∃ b off, ao = some ⟨b, off, none⟩ ∧ b < w.heap.size ∧ ∀ i, i < n → w.cell? ⟨b, off + i, none⟩ = some (.complex .f64 (Fl.fb (Z.getD i (0, 0)).1) (Fl.fb (Z.getD i (0, 0)).2)) := by
  obtain ⟨b, off, e, hb, hc⟩ := VR.cells h h0
  exact ⟨b, off, e, hb, fun i hi => hc i (by rw [VR.len h]; exact hi)⟩
theorem infoC : (Try.prog.info? 38).map (fun i => (i.zero, i.size, i.bytes)) = some (some (.complex .f64 0 0), 1, 16) := by kernel_rfl
/-- A complex number into a cell. -/
theorem store_complex {P : Program} {W : World} {g j : Nat} {v : Value} (hc : W.cell? ⟨g, j, none⟩ = some v) (hf : W.frozen? ⟨g, j, none⟩ = false) (k : FloatKind) (a b : Nat) : (store ⟨g, j, none⟩ (.complex k a b)).run P W = .ok () (W.setCell ⟨g, j, none⟩ (.complex k a b)) := by
  rw [run_store _ _ _ _ _ rfl, hc, hf]
  rfl
/-- A row of values that a call makes and fills place by place. -/
structure VN {α : Type} (f : α → Value) (d : α) (e : TypeId) (w : World) (n : Nat) (zs : List α) (wr : World) : Prop where
  own : wr.ownsRow w.heap.size e 1 (.slice (some ⟨w.heap.size, 0, none⟩) n n) n (zs.map f)
  bel : Below w.heap.size w wr
section
variable {α : Type} {f : α → Value} {d : α} {e : TypeId} {w wr : World} {n : Nat} {zs : List α}
theorem VN.set (h : VN f d e w n zs wr) (j : Nat) (y : α) : VN f d e w n (zs.set j y) (wr.setCell ⟨w.heap.size, j, none⟩ (f y)) :=
  ⟨vown_set h.own j y, h.bel.setCell (p := ⟨w.heap.size, j, none⟩) (Nat.le_refl _) _⟩
theorem VN.cell (h : VN f d e w n zs wr) {j : Nat} (hj : j < n) : wr.cell? ⟨w.heap.size, j, none⟩ = some (f (zs.getD j d)) := vown_cell h.own j hj
theorem VN.fz (h : VN f d e w n zs wr) (j : Nat) : wr.frozen? ⟨w.heap.size, j, none⟩ = false := h.own.frozenAt j
theorem VN.made {z : α} (hown : wr.ownsRow w.heap.size e 1 (.slice (some ⟨w.heap.size, 0, none⟩) n n) n (madeCells #[f z] n).toList) (hb : Below w.heap.size w wr) : VN f d e w n (List.replicate n z) wr := by
  refine ⟨?_, hb⟩
  have e2 : (madeCells #[f z] n).toList = (List.replicate n z).map f := by simp [toList_madeCells_one]
  rw [← e2]
  exact hown
theorem VN.row (h : VN f d e w n zs wr) : VR f d wr (some ⟨w.heap.size, 0, none⟩) n n zs := by
  obtain ⟨ao, c, e1, hr⟩ := VR.of_owns (d := d) h.own
  simp only [Value.slice.injEq] at e1
  obtain ⟨rfl, _, rfl⟩ := e1
  exact hr
theorem VN.keep (h : VN f d e w n zs wr) {w2 : World} (hb : KO wr w2) : VN f d e w n zs w2 :=
  ⟨owns_below h.own hb, KO.on h.bel hb⟩
end
end Go.Proofs.Ytbbhefiibcbbfaa
