/- A range over a function whose iterator may keep state of its own in cells: the caller speaks of what lay when the loop began, the iterator of what it lays itself. -/
import Derived.RangeFuncNested
import Derived.RangeFuncBound
import Derived.RangeFuncCalls
import Derived.RangeFuncLeaves
import Derived.Below
namespace Go.Proofs.Ythhfgcpflclflaa
open Go.RowKit
set_option linter.unusedVariables false
/-- What lies at or beyond B lies as it lay. -/
structure Beyond (B : Nat) (X Y : World) : Prop where
  size : X.heap.size ≤ Y.heap.size
  same : ∀ k, B ≤ k → k < X.heap.size → Y.heap[k]? = X.heap[k]?
theorem Beyond.refl (B : Nat) (X : World) : Beyond B X X := ⟨Nat.le_refl _, fun _ _ _ => rfl⟩
theorem Beyond.trans {B : Nat} {X Y Z : World} (h : Beyond B X Y) (k : Beyond B Y Z) : Beyond B X Z :=
  ⟨Nat.le_trans h.size k.size, fun i hi hx => (k.same i hi (Nat.lt_of_lt_of_le hx h.size)).trans (h.same i hi hx)⟩
theorem Beyond.mono {B B' : Nat} {X Y : World} (h : Beyond B X Y) (hB : B ≤ B') : Beyond B' X Y := ⟨h.size, fun k hk hx => h.same k (Nat.le_trans hB hk) hx⟩
theorem Beyond.alloc (B : Nat) (X : World) (o : Obj) : Beyond B X (X.alloc o) := ⟨by simp, fun k _ hk => Below.heap_alloc X o k hk⟩
theorem Beyond.drew (B : Nat) (X : World) : Beyond B X X.drew := ⟨Nat.le_refl _, fun _ _ _ => rfl⟩
theorem Beyond.setCell {B : Nat} (X : World) {p : Addr} (hp : p.block < B) (v : Value) : Beyond B X (X.setCell p v) :=
  ⟨by simp [World.setCell], fun k hk _ => Below.heap_setCell X p v k (by omega)⟩
theorem Beyond.putObj {B : Nat} (X : World) {l : Nat} (hl : l < B) (o : Obj) : Beyond B X (X.putObj l o) := ⟨by simp, fun k hk _ => World.putObj_heap_other (by omega)⟩
theorem Beyond.of_grownBy {B : Nat} {X Y : World} {row : Option Nat} (hg : X.grownBy Y row) (hr : ∀ j, row = some j → j < B) : Beyond B X Y :=
  ⟨hg.size, fun k hk hx => hg.block k hx (fun e => by have := hr k e.symm; omega)⟩
theorem Beyond.of_below {B : Nat} {X Y : World} (h : Below X.heap.size X Y) : Beyond B X Y := ⟨h.size, fun k _ hx => h.block k hx⟩
theorem below_put {B : Nat} {W : World} {l : Nat} (hl : B ≤ l) (o : Obj) : Below B W (W.putObj l o) := ⟨rfl, rfl, rfl, by simp, fun k hk => World.putObj_heap_other (by omega)⟩
/-- Below B nothing has turned; and, where c says so, no cell that lay anywhere has. -/
structure Ch (c : Bool) (B : Nat) (X Y : World) : Prop where
  below : Below B X Y
  cells : c = true → ∀ (k : Nat) (o : Obj), X.heap[k]? = some o → o.isCells = true → Y.heap[k]? = some o
theorem Ch.mono {c : Bool} {B B' : Nat} {X Y : World} (h : Ch c B X Y) (hB : B' ≤ B) : Ch c B' X Y := ⟨h.below.mono hB, h.cells⟩
theorem Ch.free {B : Nat} {X Y : World} (h : Below B X Y) : Ch false B X Y := ⟨h, fun h => by cases h⟩
theorem Ch.alloc {c : Bool} {B : Nat} {X : World} (hB : B ≤ X.heap.size) (o : Obj) : Ch c B X (X.alloc o) :=
  ⟨(Below.refl B X).alloc hB o, fun _ k o' hk _ => (Below.heap_alloc X o k (Array.getElem?_eq_some_iff.1 hk).1).trans hk⟩
theorem Ch.trans {c : Bool} {B : Nat} {X Y Z : World} (h : Ch c B X Y) (k : Ch c B Y Z) : Ch c B X Z := ⟨h.below.trans k.below, fun e i o hi ho => k.cells e i o (h.cells e i o hi ho) ho⟩
theorem Ch.put {c : Bool} {B : Nat} {W : World} {l : Nat} (hl : B ≤ l) {o : Obj} (ho : W.heap[l]? = some o) (hc : o.isCells = false) (o' : Obj) : Ch c B W (W.putObj l o') :=
  ⟨below_put hl o', fun _ k o2 hk h2 => by
    by_cases e : k = l
    · subst e; rw [ho] at hk; cases hk; rw [hc] at h2; cases h2
    · exact (World.putObj_heap_other e).trans hk⟩
theorem Ch.cell {B : Nat} {X Y : World} (h : Ch true B X Y) {a : Addr} {v : Value} (hv : X.cell? a = some v) : Y.cell? a = some v := by
  cases ho : X.heap[a.block]? with
  | none => unfold World.cell? at hv; simp [ho] at hv
  | some o =>
    have hc : o.isCells = true := by
      unfold World.cell? at hv
      cases o <;> simp_all [Obj.isCells]
    rw [World.cell?_of_block (w := X) (by rw [ho]; exact h.cells rfl _ o ho hc)]
    exact hv
/-- AN ITERATOR: whatever the caller's J, which speaks of what lay when it was called alone: it hands on xs, one behind the other, till a round says 'no more'. 'Ok': what it reads, which J must keep. -/
def Seq {α : Type} (c : Bool) (P : Program) (gf : Nat) (lb : Array Value) (encs : α → Array Value) (xs : List α) (Ok : World → Prop) : Prop :=
  ∀ (n l : Nat) (J Jx : List α → World → Prop) (W : World),
    (∀ pre X, J pre X → Ok X) → (∀ pre X Y, J pre X → Ch c W.heap.size X Y → J pre Y) → (∀ pre X Y, Jx pre X → Ch c W.heap.size X Y → Jx pre Y) →
    (∀ m pre x X, J pre X → pre ++ [x] <+: xs → W.heap.size ≤ X.heap.size → YieldAt Fence.wide m P l (encs x) X fun e Y => Beyond W.heap.size X Y ∧ ((e = .returned (.bool true) ∧ J (pre ++ [x]) Y) ∨ (e = .returned (.bool false) ∧ Jx (pre ++ [x]) Y))) →
    J [] W →
    CallsIn Fence.wide n P gf (#[.func (.yield l) #[] #[]] ++ lb) W fun e Y => (∃ v, e = .returned v) ∧ W.heap.size ≤ Y.heap.size ∧ (J xs Y ∨ ∃ pre, pre <+: xs ∧ Jx pre Y)
/-- How the body of a round may be left. -/
def rPost {α : Type} (B : Nat) (I : List α → World → Prop) (Ix : Code → List α → World → Prop) (xs : List α) (W : World) : Exit → Act → World → Prop
  | .normal, _, W' => Beyond B W W' ∧ I xs W'
  | .ret, _, W' => Beyond B W W' ∧ Ix .ret xs W'
  | .exit id, _, W' => Beyond B W W' ∧ Ix (.exit id) xs W'
  | .goto t, _, W' => Beyond B W W' ∧ Ix (.goto t) xs W'
  | .panic _, _, _ => False
  | .outgrown, _, _ => False
/-- THE CALLER. -/
theorem wpIn_range {α : Type} {ck : Bool} {P : Program} {n : Nat} {g : Operand} {ps : Array Tmp} {assign body : Code} {Q : Exit → Act → World → Prop} {a : Act} {w : World}
    {gf : Nat} {lb : Array Value} (hg : a.eval g = .func (.func gf) #[] lb) (eg : ∀ args w, (callFunc gf args).run P w = .ok (.enter gf args) w)
    {encs : α → Array Value} {xs : List α} {Ok : World → Prop} (hseq : Seq ck P gf lb encs xs Ok) (hps : ∀ x, (encs x).size = ps.size)
    (I : List α → World → Prop) (Ix : Code → List α → World → Prop) (hOk : ∀ pre X, I pre X → Ok X)
    (hI : ∀ pre X Y, I pre X → Ch ck w.heap.size X Y → I pre Y) (hIx : ∀ c pre X Y, Ix c pre X → Ch ck w.heap.size X Y → Ix c pre Y) (h0 : I [] w) (a₁ : α → Act)
    (hassign : ∀ (m l : Nat) (x : α) (W : World) (K : Act → World → Prop), K (a₁ x) W →
      assign.wpIn (Fence.wide.inRound l) m P (Exit.then K (fun _ _ _ => False)) { tmps := (ps.zip (encs x)).foldl (fun t (p, v) => t.setIfInBounds p v) a.tmps, defers := [] } W)
    (hbody : ∀ (m l : Nat) (pre : List α) (x : α) (W : World), I pre W → pre ++ [x] <+: xs → w.heap.size ≤ W.heap.size → body.wpIn (Fence.wide.inRound l) m P (rPost w.heap.size I Ix (pre ++ [x]) W) (a₁ x) W)
    (hdone : ∀ (D : Nat) (W : World), w.heap.size ≤ D → w.heap.size ≤ W.heap.size → I xs W → W.heap[D]? = some (.deferred (some [])) → Q .normal { a with defers := { target := .collected D, args := #[] } :: a.defers } W)
    (hstop : ∀ (D : Nat) (c : Code) (pre : List α) (W : World), w.heap.size ≤ D → w.heap.size ≤ W.heap.size → pre <+: xs → Ix c pre W → W.heap[D]? = some (.deferred (some [])) → c.wpIn Fence.wide n P Q { a with defers := { target := .collected D, args := #[] } :: a.defers } W) :
    (Code.rangeFunc g ps assign body).wpIn Fence.wide n P Q a w := by
  refine wpIn_rangeFunc ?_
  intro fn hfn
  obtain ⟨mk, hmk⟩ : ∃ mk : LoopState → Option Code → Loop, mk = fun st pe => { state := st, pending := pe, fn, tmps := a.tmps, params := ps, assign, body, defers := w.heap.size } := ⟨_, rfl⟩
  obtain ⟨V, hV⟩ : ∃ V, (w.alloc (.deferred (some []))).alloc (.loop (mk .ready none)) = V := ⟨_, rfl⟩
  have hsz : V.heap.size = w.heap.size + 2 := by rw [← hV]; simp
  have hbV : Ch ck w.heap.size w V := by rw [← hV]; exact (Ch.alloc (Nat.le_refl _) _).trans (Ch.alloc (by simp) _)
  have hLV : V.heap[w.heap.size + 1]? = some (.loop (mk .ready none)) := by
    rw [← hV]; have := World.alloc_heap_new (w.alloc (.deferred (some []))) (.loop (mk .ready none)); rwa [World.size_alloc] at this
  have hDV : V.heap[w.heap.size]? = some (.deferred (some [])) := by
    rw [← hV]; exact (Below.heap_alloc _ _ _ (by simp)).trans (World.alloc_heap_new w _)
  refine ⟨w.heap.size + 1, [{ target := .collected w.heap.size, args := #[] }], V, { target := .fn (.func gf) lb, args := #[.func (.yield (w.heap.size + 1)) #[] #[]] }, V, gf,
    #[.func (.yield (w.heap.size + 1)) #[] #[]] ++ lb, V, ?_, ?_, fun _ _ => trivial, ?_, fun h => (by cases h), ?_⟩
  · rw [← hV, hmk]; exact run_enterLoop_outer _ _ _ _ _
  · simp only [resolve, hg]
    simp [go_sem]
  · simp [invoke, go_sem, eg]
  · refine (hseq (n - 1) (w.heap.size + 1)
      (fun pre W => I pre W ∧ W.heap[w.heap.size + 1]? = some (.loop (mk .ready none)) ∧ W.heap[w.heap.size]? = some (.deferred (some [])))
      (fun pre W => ∃ c, Ix c pre W ∧ W.heap[w.heap.size + 1]? = some (.loop (mk .done (some c))) ∧ W.heap[w.heap.size]? = some (.deferred (some [])))
      V (fun pre X h => hOk pre X h.1)
      (fun pre X Y h hb => ⟨hI pre X Y h.1 (hb.mono (by omega)), (hb.below.block _ (by omega)).trans h.2.1, (hb.below.block _ (by omega)).trans h.2.2⟩)
      (fun pre X Y h hb => by
        obtain ⟨c, hc, hl, hk⟩ := h
        exact ⟨c, hIx c pre X Y hc (hb.mono (by omega)), (hb.below.block _ (by omega)).trans hl, (hb.below.block _ (by omega)).trans hk⟩)
      ?_ ⟨hI [] w V h0 hbV, hLV, hDV⟩).mono ?_
    · rintro m pre x X ⟨hi, hl, hk⟩ hpre hXs
      have hy := run_yield (P := P) (args := encs x) hl (by rw [hmk]; exact hps x)
      rw [hmk] at hy
      refine ⟨fn, _, assign, body, hy, roundIn_of_wpIn hfn (hassign _ _ x X _ ⟨_, run_beginRound hl (by rw [hmk]), ?_⟩)⟩
      have hlt : w.heap.size + 1 < X.heap.size := (Array.getElem?_eq_some_iff.1 hl).1
      obtain ⟨X2, hX2⟩ : ∃ X2, X.putObj (w.heap.size + 1) (.loop { mk .ready none with state := .busy }) = X2 := ⟨_, rfl⟩
      rw [hX2]
      have hl2 : X2.heap[w.heap.size + 1]? = some (.loop { mk .ready none with state := .busy }) := by rw [← hX2]; exact World.putObj_heap_same hlt
      have hk2 : X2.heap[w.heap.size]? = some (.deferred (some [])) := by rw [← hX2]; exact (World.putObj_heap_other (by omega)).trans hk
      have hb2 : Ch ck w.heap.size X X2 := by rw [← hX2]; exact Ch.put (by omega) hl rfl _
      have hy2 : Beyond V.heap.size X X2 := by rw [← hX2]; exact Beyond.putObj X (by omega) _
      have hs2 : X2.heap.size = X.heap.size := by rw [← hX2]; simp
      refine wpIn_mono (hbody _ _ pre x X2 (hI _ _ _ hi hb2) hpre (by omega)) ?_
      have fin : ∀ (jump : Option Code) (Y : World), Beyond w.heap.size X2 Y →
          (Instr.endRound (w.heap.size + 1) jump).run P Y = .ok (.bool jump.isNone) (Y.putObj (w.heap.size + 1) (.loop (mk (if jump.isNone then .ready else .done) jump))) ∧
          Ch ck w.heap.size Y (Y.putObj (w.heap.size + 1) (.loop (mk (if jump.isNone then .ready else .done) jump))) ∧
          (Y.putObj (w.heap.size + 1) (.loop (mk (if jump.isNone then .ready else .done) jump))).heap[w.heap.size + 1]? = some (.loop (mk (if jump.isNone then .ready else .done) jump)) ∧
          (Y.putObj (w.heap.size + 1) (.loop (mk (if jump.isNone then .ready else .done) jump))).heap[w.heap.size]? = some (.deferred (some [])) ∧
          Beyond V.heap.size X (Y.putObj (w.heap.size + 1) (.loop (mk (if jump.isNone then .ready else .done) jump))) := fun jump Y hY => by
        have hl3 := (hY.same _ (by omega) (by omega)).trans hl2
        have hr := run_endRound (P := P) jump hl3
        have hlt3 : w.heap.size + 1 < Y.heap.size := (Array.getElem?_eq_some_iff.1 hl3).1
        refine ⟨by rw [hr, hmk], Ch.put (by omega) hl3 rfl _, World.putObj_heap_same hlt3, (World.putObj_heap_other (by omega)).trans ((hY.same _ (Nat.le_refl _) (by omega)).trans hk2), ?_⟩
        exact hy2.trans ((hY.mono (by omega)).trans (Beyond.putObj Y (by omega) _))
      rintro e a3 Y hp
      cases e with
      | normal =>
        obtain ⟨hY, hi3⟩ := hp
        obtain ⟨hr, hb3, hl4, hk4, hy4⟩ := fin none Y hY
        exact ⟨_, _, hr, hy4, .inl ⟨rfl, hI _ _ _ hi3 hb3, hl4, hk4⟩⟩
      | ret =>
        obtain ⟨hY, hi3⟩ := hp
        obtain ⟨hr, hb3, hl4, hk4, hy4⟩ := fin (some .ret) Y hY
        exact ⟨_, _, hr, hy4, .inr ⟨rfl, .ret, hIx _ _ _ _ hi3 hb3, hl4, hk4⟩⟩
      | exit id =>
        obtain ⟨hY, hi3⟩ := hp
        obtain ⟨hr, hb3, hl4, hk4, hy4⟩ := fin (some (.exit id)) Y hY
        exact ⟨_, _, hr, hy4, .inr ⟨rfl, .exit id, hIx _ _ _ _ hi3 hb3, hl4, hk4⟩⟩
      | goto t =>
        obtain ⟨hY, hi3⟩ := hp
        obtain ⟨hr, hb3, hl4, hk4, hy4⟩ := fin (some (.goto t)) Y hY
        exact ⟨_, _, hr, hy4, .inr ⟨rfl, .goto t, hIx _ _ _ _ hi3 hb3, hl4, hk4⟩⟩
      | panic ch => exact hp.elim
      | outgrown => exact hp.elim
    · rintro e Y ⟨⟨v, rfl⟩, hYs, (⟨hi, hl, hk⟩ | ⟨pre, hpre, c, hi, hl, hk⟩)⟩
      · exact ⟨none, _, by have := run_endLoop (P := P) hl (by rw [hmk]; simp); rw [hmk] at this; exact this, hdone _ _ (Nat.le_refl _) (by simp; omega) (hI _ _ _ hi (Ch.put (by omega) hl rfl _)) ((World.putObj_heap_other (by omega)).trans hk)⟩
      · exact ⟨some c, _, by have := run_endLoop (P := P) hl (by rw [hmk]; simp); rw [hmk] at this; exact this, hstop _ c pre _ (Nat.le_refl _) (by simp; omega) hpre (hIx _ _ _ _ hi (Ch.put (by omega) hl rfl _)) ((World.putObj_heap_other (by omega)).trans hk)⟩
end Go.Proofs.Ythhfgcpflclflaa
