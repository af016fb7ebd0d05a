/- A range over a function that keeps no cell of its own: its rounds may write whatever cells there are; the round's variables may lie in memory. -/
import Derived.Test.YthhfgcpflclflaaRng
namespace Go.Proofs.Ythhfgcpflclflaa
open Go.RowKit
set_option linter.unusedVariables false
/-- What is no cells and lies at or beyond B lies as it lay. -/
structure Far (B : Nat) (X Y : World) : Prop where
  size : X.heap.size ≤ Y.heap.size
  same : ∀ (k : Nat) (o : Obj), B ≤ k → X.heap[k]? = some o → o.isCells = false → Y.heap[k]? = some o
theorem Far.refl (B : Nat) (X : World) : Far B X X := ⟨Nat.le_refl _, fun _ _ _ h _ => h⟩
theorem Far.trans {B : Nat} {X Y Z : World} (h : Far B X Y) (k : Far B Y Z) : Far B X Z := ⟨Nat.le_trans h.size k.size, fun i o hi hx ho => k.same i o hi (h.same i o hi hx ho) ho⟩
theorem Far.mono {B B' : Nat} {X Y : World} (h : Far B X Y) (hB : B ≤ B') : Far B' X Y := ⟨h.size, fun k o hk hx ho => h.same k o (Nat.le_trans hB hk) hx ho⟩
theorem Far.putObj {B : Nat} (X : World) {l : Nat} (hl : l < B) (o : Obj) : Far B X (X.putObj l o) := ⟨by simp, fun k o' hk hx _ => (World.putObj_heap_other (by omega)).trans hx⟩
theorem Far.of_below {B : Nat} {X Y : World} (h : Below X.heap.size X Y) : Far B X Y := ⟨h.size, fun k o _ hx _ => (h.block k (Array.getElem?_eq_some_iff.1 hx).1).trans hx⟩
theorem Far.of_beyond {B : Nat} {X Y : World} (h : Beyond B X Y) : Far B X Y := ⟨h.size, fun k o hk hx _ => (h.same k hk (Array.getElem?_eq_some_iff.1 hx).1).trans hx⟩
theorem Far.of_others {B : Nat} {X Y : World} (h : KeepsOthers X Y) : Far B X Y := ⟨h.size, fun k o _ hx ho => h.same k o hx ho⟩
/-- An iterator, Rel being what its rounds owe to it. -/
def SeqG {α : Type} (c : Bool) (Rel : Nat → World → World → Prop) (P : Program) (gf : Nat) (lb : Array Value) (encs : α → Array Value) (xs : List α) (Ok : World → Prop) : Prop :=
  ∀ (n l : Nat) (J Jx : List α → World → Prop) (W : World),
    (∀ pre X, J pre X → Ok X) → (∀ pre X Y, J pre X → Ch c W.heap.size X Y → J pre Y) → (∀ pre X Y, Jx pre X → Ch c W.heap.size X Y → Jx pre Y) →
    (∀ m pre x X, J pre X → pre ++ [x] <+: xs → W.heap.size ≤ X.heap.size → YieldAt Fence.wide m P l (encs x) X fun e Y => Rel W.heap.size X Y ∧ ((e = .returned (.bool true) ∧ J (pre ++ [x]) Y) ∨ (e = .returned (.bool false) ∧ Jx (pre ++ [x]) Y))) →
    J [] W →
    CallsIn Fence.wide n P gf (#[.func (.yield l) #[] #[]] ++ lb) W fun e Y => (∃ v, e = .returned v) ∧ W.heap.size ≤ Y.heap.size ∧ (J xs Y ∨ ∃ pre, pre <+: xs ∧ Jx pre Y)
/-- How the body of a round may be left. -/
def rPostC {α : Type} (B : Nat) (I : List α → World → Prop) (Ix : Code → List α → World → Prop) (xs : List α) (W : World) : Exit → Act → World → Prop
  | .normal, _, W' => Far B W W' ∧ I xs W'
  | .ret, _, W' => Far B W W' ∧ Ix .ret xs W'
  | .exit id, _, W' => Far B W W' ∧ Ix (.exit id) xs W'
  | .goto t, _, W' => Far B W W' ∧ Ix (.goto t) xs W'
  | .panic _, _, _ => False
  | .outgrown, _, _ => False
/-- THE CALLER of an iterator that keeps no cell: a round may write whatever cells there are. W₁ is the world behind the laying of the round's variables. -/
theorem wpIn_rangeC {α : Type} {P : Program} {n : Nat} {g : Operand} {ps : Array Tmp} {assign body : Code} {Q : Exit → Act → World → Prop} {a : Act} {w : World}
    {gf : Nat} {lb : Array Value} (hg : a.eval g = .func (.func gf) #[] lb) (eg : ∀ args w, (callFunc gf args).run P w = .ok (.enter gf args) w)
    {encs : α → Array Value} {xs : List α} {Ok : World → Prop} (hseq : SeqG true Far P gf lb encs xs Ok) (hps : ∀ x, (encs x).size = ps.size)
    (I : List α → World → Prop) (Ix : Code → List α → World → Prop) (hOk : ∀ pre X, I pre X → Ok X)
    (hI : ∀ pre X Y, I pre X → Ch true w.heap.size X Y → I pre Y) (hIx : ∀ c pre X Y, Ix c pre X → Ch true w.heap.size X Y → Ix c pre Y) (h0 : I [] w) (a₁ : α → World → Act) (W₁ : α → World → World) (hW₁ : ∀ x W, Below W.heap.size W (W₁ x W))
    (hassign : ∀ (m l : Nat) (x : α) (W : World) (K : Act → World → Prop), K (a₁ x W) (W₁ x W) →
      assign.wpIn (Fence.wide.inRound l) m P (Exit.then K (fun _ _ _ => False)) { tmps := (ps.zip (encs x)).foldl (fun t (p, v) => t.setIfInBounds p v) a.tmps, defers := [] } W)
    (hbody : ∀ (m l : Nat) (pre : List α) (x : α) (X W : World), I pre W → pre ++ [x] <+: xs → w.heap.size ≤ X.heap.size → (∀ k, X.heap.size ≤ k → W.heap[k]? = (W₁ x X).heap[k]?) → W.heap.size = (W₁ x X).heap.size → body.wpIn (Fence.wide.inRound l) m P (rPostC w.heap.size I Ix (pre ++ [x]) W) (a₁ x X) W)
    (hdone : ∀ (D : Nat) (W : World), w.heap.size ≤ D → w.heap.size ≤ W.heap.size → I xs W → W.heap[D]? = some (.deferred (some [])) → Q .normal { a with defers := { target := .collected D, args := #[] } :: a.defers } W)
    (hstop : ∀ (D : Nat) (c : Code) (pre : List α) (W : World), w.heap.size ≤ D → w.heap.size ≤ W.heap.size → pre <+: xs → Ix c pre W → W.heap[D]? = some (.deferred (some [])) → c.wpIn Fence.wide n P Q { a with defers := { target := .collected D, args := #[] } :: a.defers } W) :
    (Code.rangeFunc g ps assign body).wpIn Fence.wide n P Q a w := by
  refine wpIn_rangeFunc ?_
  intro fn hfn
  obtain ⟨mk, hmk⟩ : ∃ mk : LoopState → Option Code → Loop, mk = fun st pe => { state := st, pending := pe, fn, tmps := a.tmps, params := ps, assign, body, defers := w.heap.size } := ⟨_, rfl⟩
  obtain ⟨V, hV⟩ : ∃ V, (w.alloc (.deferred (some []))).alloc (.loop (mk .ready none)) = V := ⟨_, rfl⟩
  have hsz : V.heap.size = w.heap.size + 2 := by rw [← hV]; simp
  have hbV : Ch true w.heap.size w V := by rw [← hV]; exact (Ch.alloc (Nat.le_refl _) _).trans (Ch.alloc (by simp) _)
  have hLV : V.heap[w.heap.size + 1]? = some (.loop (mk .ready none)) := by
    rw [← hV]; have := World.alloc_heap_new (w.alloc (.deferred (some []))) (.loop (mk .ready none)); rwa [World.size_alloc] at this
  have hDV : V.heap[w.heap.size]? = some (.deferred (some [])) := by
    rw [← hV]; exact (Below.heap_alloc _ _ _ (by simp)).trans (World.alloc_heap_new w _)
  refine ⟨w.heap.size + 1, [{ target := .collected w.heap.size, args := #[] }], V, { target := .fn (.func gf) lb, args := #[.func (.yield (w.heap.size + 1)) #[] #[]] }, V, gf,
    #[.func (.yield (w.heap.size + 1)) #[] #[]] ++ lb, V, ?_, ?_, fun _ _ => trivial, ?_, fun h => (by cases h), ?_⟩
  · rw [← hV, hmk]; exact run_enterLoop_outer _ _ _ _ _
  · simp only [resolve, hg]
    simp [go_sem]
  · simp [invoke, go_sem, eg]
  · refine (hseq (n - 1) (w.heap.size + 1)
      (fun pre W => I pre W ∧ W.heap[w.heap.size + 1]? = some (.loop (mk .ready none)) ∧ W.heap[w.heap.size]? = some (.deferred (some [])))
      (fun pre W => ∃ c, Ix c pre W ∧ W.heap[w.heap.size + 1]? = some (.loop (mk .done (some c))) ∧ W.heap[w.heap.size]? = some (.deferred (some [])))
      V (fun pre X h => hOk pre X h.1)
      (fun pre X Y h hb => ⟨hI pre X Y h.1 (hb.mono (by omega)), (hb.below.block _ (by omega)).trans h.2.1, (hb.below.block _ (by omega)).trans h.2.2⟩)
      (fun pre X Y h hb => by
        obtain ⟨c, hc, hl, hk⟩ := h
        exact ⟨c, hIx c pre X Y hc (hb.mono (by omega)), (hb.below.block _ (by omega)).trans hl, (hb.below.block _ (by omega)).trans hk⟩)
      ?_ ⟨hI [] w V h0 hbV, hLV, hDV⟩).mono ?_
    · rintro m pre x X ⟨hi, hl, hk⟩ hpre hXs
      have hy := run_yield (P := P) (args := encs x) hl (by rw [hmk]; exact hps x)
      rw [hmk] at hy
      have hlt : w.heap.size + 1 < X.heap.size := (Array.getElem?_eq_some_iff.1 hl).1
      have hb1 := hW₁ x X
      obtain ⟨X1, hX1⟩ : ∃ X1, W₁ x X = X1 := ⟨_, rfl⟩
      have hsz1 : X.heap.size ≤ X1.heap.size := by rw [← hX1]; exact hb1.size
      have hl1 : X1.heap[w.heap.size + 1]? = some (.loop (mk .ready none)) := by rw [← hX1]; exact (hb1.block _ hlt).trans hl
      have hk1 : X1.heap[w.heap.size]? = some (.deferred (some [])) := by rw [← hX1]; exact (hb1.block _ (by omega)).trans hk
      have hl1' : (W₁ x X).heap[w.heap.size + 1]? = some (.loop (mk .ready none)) := by rw [hX1]; exact hl1
      refine ⟨fn, _, assign, body, hy, roundIn_of_wpIn hfn (hassign _ _ x X _ ⟨_, run_beginRound hl1' (by rw [hmk]), ?_⟩)⟩
      rw [hX1]
      obtain ⟨X2, hX2⟩ : ∃ X2, X1.putObj (w.heap.size + 1) (.loop { mk .ready none with state := .busy }) = X2 := ⟨_, rfl⟩
      rw [hX2]
      have hl2 : X2.heap[w.heap.size + 1]? = some (.loop { mk .ready none with state := .busy }) := by rw [← hX2]; exact World.putObj_heap_same (by omega)
      have hk2 : X2.heap[w.heap.size]? = some (.deferred (some [])) := by rw [← hX2]; exact (World.putObj_heap_other (by omega)).trans hk1
      have hch1 : Ch true w.heap.size X X1 := by rw [← hX1]; exact ⟨hb1.mono (by omega), fun _ q o hq _ => (hb1.block q (Array.getElem?_eq_some_iff.1 hq).1).trans hq⟩
      have hb2 : Ch true w.heap.size X X2 := by rw [← hX2]; exact hch1.trans (Ch.put (by omega) hl1 rfl _)
      have hy2 : Far V.heap.size X X2 := by rw [← hX2]; refine Far.trans ?_ (Far.putObj X1 (by omega) _); rw [← hX1]; exact Far.of_below hb1
      have hs2 : X2.heap.size = X1.heap.size := by rw [← hX2]; simp
      refine wpIn_mono (hbody _ _ pre x X X2 (hI _ _ _ hi hb2) hpre (by omega) (fun k hk => by rw [hX1, ← hX2]; exact World.putObj_heap_other (by omega)) (by rw [hX1]; exact hs2)) ?_
      have fin : ∀ (jump : Option Code) (Y : World), Far w.heap.size X2 Y →
          (Instr.endRound (w.heap.size + 1) jump).run P Y = .ok (.bool jump.isNone) (Y.putObj (w.heap.size + 1) (.loop (mk (if jump.isNone then .ready else .done) jump))) ∧
          Ch true w.heap.size Y (Y.putObj (w.heap.size + 1) (.loop (mk (if jump.isNone then .ready else .done) jump))) ∧
          (Y.putObj (w.heap.size + 1) (.loop (mk (if jump.isNone then .ready else .done) jump))).heap[w.heap.size + 1]? = some (.loop (mk (if jump.isNone then .ready else .done) jump)) ∧
          (Y.putObj (w.heap.size + 1) (.loop (mk (if jump.isNone then .ready else .done) jump))).heap[w.heap.size]? = some (.deferred (some [])) ∧
          Far V.heap.size X (Y.putObj (w.heap.size + 1) (.loop (mk (if jump.isNone then .ready else .done) jump))) := fun jump Y hY => by
        have hl3 := hY.same _ _ (by omega) hl2 rfl
        have hr := run_endRound (P := P) jump hl3
        have hlt3 : w.heap.size + 1 < Y.heap.size := (Array.getElem?_eq_some_iff.1 hl3).1
        refine ⟨by rw [hr, hmk], Ch.put (by omega) hl3 rfl _, World.putObj_heap_same hlt3, (World.putObj_heap_other (by omega)).trans (hY.same _ _ (Nat.le_refl _) hk2 rfl), ?_⟩
        exact hy2.trans ((hY.mono (by omega)).trans (Far.putObj Y (by omega) _))
      rintro e a3 Y hp
      cases e with
      | normal =>
        obtain ⟨hY, hi3⟩ := hp
        obtain ⟨hr, hb3, hl4, hk4, hy4⟩ := fin none Y hY
        exact ⟨_, _, hr, hy4, .inl ⟨rfl, hI _ _ _ hi3 hb3, hl4, hk4⟩⟩
      | ret =>
        obtain ⟨hY, hi3⟩ := hp
        obtain ⟨hr, hb3, hl4, hk4, hy4⟩ := fin (some .ret) Y hY
        exact ⟨_, _, hr, hy4, .inr ⟨rfl, .ret, hIx _ _ _ _ hi3 hb3, hl4, hk4⟩⟩
      | exit id =>
        obtain ⟨hY, hi3⟩ := hp
        obtain ⟨hr, hb3, hl4, hk4, hy4⟩ := fin (some (.exit id)) Y hY
        exact ⟨_, _, hr, hy4, .inr ⟨rfl, .exit id, hIx _ _ _ _ hi3 hb3, hl4, hk4⟩⟩
      | goto t =>
        obtain ⟨hY, hi3⟩ := hp
        obtain ⟨hr, hb3, hl4, hk4, hy4⟩ := fin (some (.goto t)) Y hY
        exact ⟨_, _, hr, hy4, .inr ⟨rfl, .goto t, hIx _ _ _ _ hi3 hb3, hl4, hk4⟩⟩
      | panic ch => exact hp.elim
      | outgrown => exact hp.elim
    · rintro e Y ⟨⟨v, rfl⟩, hYs, (⟨hi, hl, hk⟩ | ⟨pre, hpre, c, hi, hl, hk⟩)⟩
      · exact ⟨none, _, by have := run_endLoop (P := P) hl (by rw [hmk]; simp); rw [hmk] at this; exact this, hdone _ _ (Nat.le_refl _) (by simp; omega) (hI _ _ _ hi (Ch.put (by omega) hl rfl _)) ((World.putObj_heap_other (by omega)).trans hk)⟩
      · exact ⟨some c, _, by have := run_endLoop (P := P) hl (by rw [hmk]; simp); rw [hmk] at this; exact this, hstop _ c pre _ (Nat.le_refl _) (by simp; omega) hpre (hIx _ _ _ _ hi (Ch.put (by omega) hl rfl _)) ((World.putObj_heap_other (by omega)).trans hk)⟩
end Go.Proofs.Ythhfgcpflclflaa
