/- Lists of calls of a disk: what a walk is told of one. -/
import Derived.Test.YthhfgcpflclflaaRecs
import Derived.Test.YthhfgcpflclflaaFoot
import Derived.Test.YthhfgcpflclflaaRows
namespace Go.Proofs.Ythhfgcpflclflaa
open Go.ChangeShapes Go.WideShapes Go.ChangeAt Go.RowKit Go.Deep
set_option linter.unusedVariables false
/-- A call, as it is told. -/
structure A17 where
  kd : Int
  n : Int
  at' : Int
  ab : Option Addr
  nb : Nat
  cb : Nat
  bs : List Int
  ak : Option Addr
  nk : Nat
  ck : Nat
  ks : List Int
/-- Its numbers are ints, its lists lie. -/
structure Good17 (w : World) (x : A17) : Prop where
  f0 : (Lit.int .i64 x.kd).wf = true
  f1 : (Lit.int .i64 x.n).wf = true
  f2 : (Lit.int .i64 x.at').wf = true
  rb : Row .u8 w x.ab x.nb x.cb x.bs
  bb : Bytes x.bs
  rk : Row .i64 w x.ak x.nk x.ck x.ks
  fk : ∀ z ∈ x.ks, (Lit.int .i64 z).wf = true
  bnd : x.nb ≤ 140737488351232
  bnk : x.nk * 8 ≤ 140737488351232
/-- A call lies at a place. -/
structure ActAt17 (w : World) (b off : Nat) (x : A17) : Prop where
  c0 : w.cell? ⟨b, off, none⟩ = some (.int .i64 x.kd)
  c1 : w.cell? ⟨b, off + 1, none⟩ = some (.int .i64 x.n)
  c2 : w.cell? ⟨b, off + 2, none⟩ = some (.int .i64 x.at')
  c3 : w.cell? ⟨b, off + 3, none⟩ = some (.slice x.ab x.nb x.cb)
  c4 : w.cell? ⟨b, off + 4, none⟩ = some (.slice x.ak x.nk x.ck)
/-- A slice of calls. -/
structure Acts17 (w : World) (ao : Option Addr) (n cap : Nat) : Prop where
  le : n ≤ cap
  max : cap ≤ maxLen
  cells : 0 < n → ∃ b off, ao = some ⟨b, off, none⟩ ∧ b < w.heap.size ∧ ∀ i, i < n → ∃ x, ActAt17 w b (off + i * 5) x ∧ Good17 w x
theorem Good17.below {w w' : World} {x : A17} (h : Good17 w x) (hb : Below w.heap.size w w') : Good17 w' x :=
  ⟨h.f0, h.f1, h.f2, h.rb.below hb, h.bb, h.rk.below hb, h.fk, h.bnd, h.bnk⟩
theorem ActAt17.below {w w' : World} {b off : Nat} {x : A17} (h : ActAt17 w b off x) (hb : Below w.heap.size w w') (hl : b < w.heap.size) : ActAt17 w' b off x :=
  ⟨(hb.cell (by exact hl)).trans h.c0, (hb.cell (by exact hl)).trans h.c1, (hb.cell (by exact hl)).trans h.c2, (hb.cell (by exact hl)).trans h.c3, (hb.cell (by exact hl)).trans h.c4⟩
theorem Acts17.below {w w' : World} {ao : Option Addr} {n cap : Nat} (h : Acts17 w ao n cap) (hb : Below w.heap.size w w') : Acts17 w' ao n cap :=
  ⟨h.le, h.max, fun h0 => by
    obtain ⟨b, off, e, hl, hc⟩ := h.cells h0
    refine ⟨b, off, e, Nat.lt_of_lt_of_le hl hb.size, fun i hi => ?_⟩
    obtain ⟨x, h1, h2⟩ := hc i hi
    exact ⟨x, h1.below hb hl, h2.below hb⟩⟩
theorem byte_wf {z : Int} (h : (Lit.int .u8 z).wf = true) : 0 ≤ z ∧ z ≤ 255 := by
  simp [Lit.wf, IntKind.min, IntKind.max, IntKind.signed, IntKind.bits] at h
  omega
/-- A call's fields, out of its cells. -/
theorem act_of17 {H : Type} {enc : TypeId × Value → H} {W : World} {fs : Array Field} {lim : Nat → Prop} {cell : Nat → Option Value}
    (hf : ∃ f0 f1 f2 f3 f4 : Field, fs = #[f0, f1, f2, f3, f4] ∧ f0.type = 3 ∧ f1.type = 3 ∧ f2.type = 3 ∧ f3.type = 33 ∧ f4.type = 34) (n : Nat)
    (h : ∀ (j : Nat) (f : Field), fs[j]? = some f → ∃ c y, cell j = some c ∧ DataW.trod enc Try.prog W 0 (fun _ => true) true n f.type [c] = some y ∧ ∀ g, g ∈ y.1.weights Try.prog f.type → g ≤ reachBytes) :
    ∃ x : A17, cell 0 = some (.int .i64 x.kd) ∧ cell 1 = some (.int .i64 x.n) ∧ cell 2 = some (.int .i64 x.at') ∧ cell 3 = some (.slice x.ab x.nb x.cb) ∧ cell 4 = some (.slice x.ak x.nk x.ck) ∧ Good17 W x := by
  obtain ⟨f0, f1, f2, f3, f4, rfl, t0, t1, t2, t3, t4⟩ := hf
  obtain ⟨c0, y0, q0, r0, _⟩ := h 0 f0 rfl
  obtain ⟨c1, y1, q1, r1, _⟩ := h 1 f1 rfl
  obtain ⟨c2, y2, q2, r2, _⟩ := h 2 f2 rfl
  obtain ⟨c3, y3, q3, r3, g3⟩ := h 3 f3 rfl
  obtain ⟨c4, y4, q4, r4, g4⟩ := h 4 f4 rfl
  rw [t0] at r0
  rw [t1] at r1
  rw [t2] at r2
  rw [t3] at r3 g3
  rw [t4] at r4 g4
  obtain ⟨kd, e0, _, w0⟩ := DataW.trod_int Try.underlying3 r0
  obtain ⟨nn, e1, _, w1⟩ := DataW.trod_int Try.underlying3 r1
  obtain ⟨aa, e2, _, w2⟩ := DataW.trod_int Try.underlying3 r2
  obtain ⟨ab, nb, cb, bs, e3, hb, wb, lb⟩ := row_field (k := .u8) (bytes := 1) Try.underlying33 Try.underlying5 (by kernel_rfl) (by kernel_rfl) r3 g3
  obtain ⟨ak, nk, ck, ks, e4, hk, wk, lk⟩ := row_field (k := .i64) (bytes := 8) Try.underlying34 Try.underlying3 (by kernel_rfl) (by kernel_rfl) r4 g4
  simp only [List.cons.injEq, and_true] at e0 e1 e2
  subst e0 e1 e2 e3 e4
  exact ⟨⟨kd, nn, aa, ab, nb, cb, bs, ak, nk, ck, ks⟩, q0, q1, q2, q3, q4, ⟨w0, w1, w2, hb, fun z hz => byte_wf (wb z hz), hk, wk, by show nb ≤ _; omega, lk⟩⟩
/-- AN ARGUMENT THAT IS A LIST OF CALLS. -/
theorem open_acts17 {H : Type} {enc : TypeId × Value → H} {W : World} {a : Option Addr} {len cap : Nat} {d : DataW H} {p : List MemPlace}
    (h : DataW.Trod enc Try.prog W 0 (fun _ => true) true 22 (.slice a len cap) d p) (hw : ∀ g, g ∈ d.weights Try.prog 22 → g ≤ reachBytes) : Acts17 W a len cap := by
  obtain ⟨h1, h2, h3⟩ := open_recs Try.underlying22 Try.underlying36 (by kernel_rfl) (by kernel_rfl) (by decide) h
  refine ⟨h1, h2, fun h0 => ?_⟩
  obtain ⟨b, off, e, hb, hc⟩ := h3 h0
  refine ⟨b, off, e, hb, fun i hi => ?_⟩
  obtain ⟨n, hn⟩ := hc i hi
  obtain ⟨x, g0, g1, g2, g3, g4, hg⟩ := act_of17 (enc := enc) (cell := fun j => W.cell? ⟨b, off + i * 5 + j, none⟩) (fs := _) (lim := fun _ => True) ⟨_, _, _, _, _, rfl, rfl, rfl, rfl, rfl, rfl⟩ n (fun j f hj => by
    obtain ⟨c, y, hc1, hc2, hc3⟩ := hn j f hj
    exact ⟨c, y, hc1, hc2, fun g hg => hw g (hc3 g hg)⟩)
  exact ⟨x, ⟨g0, g1, g2, g3, g4⟩, hg⟩
/-- AN ARGUMENT THAT IS A CALL: five values. -/
theorem good17 {w : World} {kd n a : Int} {ab : Option Addr} {nb cb : Nat} {bs : List Int} {ak : Option Addr} {nk ck : Nat} {ks : List Int}
    (f0 : (Lit.int .i64 kd).wf = true) (f1 : (Lit.int .i64 n).wf = true) (f2 : (Lit.int .i64 a).wf = true) (rb : Row .u8 w ab nb cb bs) (fb : ∀ z ∈ bs, (Lit.int .u8 z).wf = true) (bb : nb * 1 ≤ 140737488351232)
    (rk : Row .i64 w ak nk ck ks) (fk : ∀ z ∈ ks, (Lit.int .i64 z).wf = true) (bk : nk * 8 ≤ 140737488351232) : Good17 w ⟨kd, n, a, ab, nb, cb, bs, ak, nk, ck, ks⟩ :=
  ⟨f0, f1, f2, rb, fun z hz => byte_wf (fb z hz), rk, fk, by show nb ≤ _; omega, bk⟩
end Go.Proofs.Ythhfgcpflclflaa
