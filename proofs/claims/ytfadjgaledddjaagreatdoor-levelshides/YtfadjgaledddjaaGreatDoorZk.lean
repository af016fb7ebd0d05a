import Derived.RangeFuncNested
import Derived.RangeFuncBound
import Derived.RangeFuncCalls
import Derived.RangeFuncLeaves
import Derived.Below
import Derived.Test.YtfadjgaledddjaaGreatDoorZa
import Derived.Maps.OwnSet
import Derived.Maps.OwnOps
import Derived.Shelf.Abstract
import Derived.Shelf.RegionOpen
import Derived.WalkKit
import Derived.OwnWalkIn
import Derived.TacticsInMore
import Derived.LoopNIn
import Derived.LoopIn
/- A range over a function whose iterator may keep state of its own in cells: the caller speaks of what lay when the loop began, the iterator of what it lays itself. -/
namespace Go.Proofs.YtfadjgaledddjaaGreatDoor
open Go.RowKit
set_option linter.unusedVariables false
/-- What lies at or beyond B lies as it lay. -/
structure Beyond (B : Nat) (X Y : World) : Prop where
  size : X.heap.size ≤ Y.heap.size
  same : ∀ k, B ≤ k → k < X.heap.size → Y.heap[k]? = X.heap[k]?
theorem Beyond.refl (B : Nat) (X : World) : Beyond B X X := ⟨Nat.le_refl _, fun _ _ _ => rfl⟩
theorem Beyond.trans {B : Nat} {X Y Z : World} (h : Beyond B X Y) (k : Beyond B Y Z) : Beyond B X Z :=
  ⟨Nat.le_trans h.size k.size, fun i hi hx => (k.same i hi (Nat.lt_of_lt_of_le hx h.size)).trans (h.same i hi hx)⟩
theorem Beyond.mono {B B' : Nat} {X Y : World} (h : Beyond B X Y) (hB : B ≤ B') : Beyond B' X Y := ⟨h.size, fun k hk hx => h.same k (Nat.le_trans hB hk) hx⟩
theorem Beyond.alloc (B : Nat) (X : World) (o : Obj) : Beyond B X (X.alloc o) := ⟨by simp, fun k _ hk => Below.heap_alloc X o k hk⟩
theorem Beyond.drew (B : Nat) (X : World) : Beyond B X X.drew := ⟨Nat.le_refl _, fun _ _ _ => rfl⟩
theorem Beyond.setCell {B : Nat} (X : World) {p : Addr} (hp : p.block < B) (v : Value) : Beyond B X (X.setCell p v) :=
  ⟨by simp [World.setCell], fun k hk _ => Below.heap_setCell X p v k (by omega)⟩
theorem Beyond.putObj {B : Nat} (X : World) {l : Nat} (hl : l < B) (o : Obj) : Beyond B X (X.putObj l o) := ⟨by simp, fun k hk _ => World.putObj_heap_other (by omega)⟩
theorem Beyond.of_grownBy {B : Nat} {X Y : World} {row : Option Nat} (hg : X.grownBy Y row) (hr : ∀ j, row = some j → j < B) : Beyond B X Y :=
  ⟨hg.size, fun k hk hx => hg.block k hx (fun e => by have := hr k e.symm; omega)⟩
theorem Beyond.of_below {B : Nat} {X Y : World} (h : Below X.heap.size X Y) : Beyond B X Y := ⟨h.size, fun k _ hx => h.block k hx⟩
theorem below_put {B : Nat} {W : World} {l : Nat} (hl : B ≤ l) (o : Obj) : Below B W (W.putObj l o) := ⟨rfl, rfl, rfl, by simp, fun k hk => World.putObj_heap_other (by omega)⟩
/-- Below B nothing has turned; and, where c says so, no cell that lay anywhere has. -/
structure Ch (c : Bool) (B : Nat) (X Y : World) : Prop where
  below : Below B X Y
  cells : c = true → ∀ (k : Nat) (o : Obj), X.heap[k]? = some o → o.isCells = true → Y.heap[k]? = some o
theorem Ch.mono {c : Bool} {B B' : Nat} {X Y : World} (h : Ch c B X Y) (hB : B' ≤ B) : Ch c B' X Y := ⟨h.below.mono hB, h.cells⟩
theorem Ch.free {B : Nat} {X Y : World} (h : Below B X Y) : Ch false B X Y := ⟨h, fun h => by cases h⟩
theorem Ch.alloc {c : Bool} {B : Nat} {X : World} (hB : B ≤ X.heap.size) (o : Obj) : Ch c B X (X.alloc o) :=
  ⟨(Below.refl B X).alloc hB o, fun _ k o' hk _ => (Below.heap_alloc X o k (Array.getElem?_eq_some_iff.1 hk).1).trans hk⟩
theorem Ch.trans {c : Bool} {B : Nat} {X Y Z : World} (h : Ch c B X Y) (k : Ch c B Y Z) : Ch c B X Z := ⟨h.below.trans k.below, fun e i o hi ho => k.cells e i o (h.cells e i o hi ho) ho⟩
theorem Ch.put {c : Bool} {B : Nat} {W : World} {l : Nat} (hl : B ≤ l) {o : Obj} (ho : W.heap[l]? = some o) (hc : o.isCells = false) (o' : Obj) : Ch c B W (W.putObj l o') :=
  ⟨below_put hl o', fun _ k o2 hk h2 => by
    by_cases e : k = l
    · subst e; rw [ho] at hk; cases hk; rw [hc] at h2; cases h2
    · exact (World.putObj_heap_other e).trans hk⟩
theorem Ch.cell {B : Nat} {X Y : World} (h : Ch true B X Y) {a : Addr} {v : Value} (hv : X.cell? a = some v) : Y.cell? a = some v := by
  cases ho : X.heap[a.block]? with
  | none => unfold World.cell? at hv; simp [ho] at hv
  | some o =>
    have hc : o.isCells = true := by
      unfold World.cell? at hv
      cases o <;> simp_all [Obj.isCells]
    rw [World.cell?_of_block (w := X) (by rw [ho]; exact h.cells rfl _ o ho hc)]
    exact hv
/-- AN ITERATOR: whatever the caller's J, which speaks of what lay when it was called alone: it hands on xs, one behind the other, till a round says 'no more'. 'Ok': what it reads, which J must keep. -/
def Seq {α : Type} (c : Bool) (P : Program) (gf : Nat) (lb : Array Value) (encs : α → Array Value) (xs : List α) (Ok : World → Prop) : Prop :=
  ∀ (n l : Nat) (J Jx : List α → World → Prop) (W : World),
    (∀ pre X, J pre X → Ok X) → (∀ pre X Y, J pre X → Ch c W.heap.size X Y → J pre Y) → (∀ pre X Y, Jx pre X → Ch c W.heap.size X Y → Jx pre Y) →
    (∀ m pre x X, J pre X → pre ++ [x] <+: xs → W.heap.size ≤ X.heap.size → YieldAt Fence.wide m P l (encs x) X fun e Y => Beyond W.heap.size X Y ∧ ((e = .returned (.bool true) ∧ J (pre ++ [x]) Y) ∨ (e = .returned (.bool false) ∧ Jx (pre ++ [x]) Y))) →
    J [] W →
    CallsIn Fence.wide n P gf (#[.func (.yield l) #[] #[]] ++ lb) W fun e Y => (∃ v, e = .returned v) ∧ W.heap.size ≤ Y.heap.size ∧ (J xs Y ∨ ∃ pre, pre <+: xs ∧ Jx pre Y)
/-- How the body of a round may be left. -/
def rPost {α : Type} (B : Nat) (I : List α → World → Prop) (Ix : Code → List α → World → Prop) (xs : List α) (W : World) : Exit → Act → World → Prop
  | .normal, _, W' => Beyond B W W' ∧ I xs W'
  | .ret, _, W' => Beyond B W W' ∧ Ix .ret xs W'
  | .exit id, _, W' => Beyond B W W' ∧ Ix (.exit id) xs W'
  | .goto t, _, W' => Beyond B W W' ∧ Ix (.goto t) xs W'
  | .panic _, _, _ => False
  | .outgrown, _, _ => False
/-- THE CALLER. -/
theorem wpIn_range {α : Type} {ck : Bool} {P : Program} {n : Nat} {g : Operand} {ps : Array Tmp} {assign body : Code} {Q : Exit → Act → World → Prop} {a : Act} {w : World}
    {gf : Nat} {lb : Array Value} (hg : a.eval g = .func (.func gf) #[] lb) (eg : ∀ args w, (callFunc gf args).run P w = .ok (.enter gf args) w)
    {encs : α → Array Value} {xs : List α} {Ok : World → Prop} (hseq : Seq ck P gf lb encs xs Ok) (hps : ∀ x, (encs x).size = ps.size)
    (I : List α → World → Prop) (Ix : Code → List α → World → Prop) (hOk : ∀ pre X, I pre X → Ok X)
    (hI : ∀ pre X Y, I pre X → Ch ck w.heap.size X Y → I pre Y) (hIx : ∀ c pre X Y, Ix c pre X → Ch ck w.heap.size X Y → Ix c pre Y) (h0 : I [] w) (a₁ : α → Act)
    (hassign : ∀ (m l : Nat) (x : α) (W : World) (K : Act → World → Prop), K (a₁ x) W →
      assign.wpIn (Fence.wide.inRound l) m P (Exit.then K (fun _ _ _ => False)) { tmps := (ps.zip (encs x)).foldl (fun t (p, v) => t.setIfInBounds p v) a.tmps, defers := [] } W)
    (hbody : ∀ (m l : Nat) (pre : List α) (x : α) (W : World), I pre W → pre ++ [x] <+: xs → w.heap.size ≤ W.heap.size → body.wpIn (Fence.wide.inRound l) m P (rPost w.heap.size I Ix (pre ++ [x]) W) (a₁ x) W)
    (hdone : ∀ (D : Nat) (W : World), w.heap.size ≤ D → w.heap.size ≤ W.heap.size → I xs W → W.heap[D]? = some (.deferred (some [])) → Q .normal { a with defers := { target := .collected D, args := #[] } :: a.defers } W)
    (hstop : ∀ (D : Nat) (c : Code) (pre : List α) (W : World), w.heap.size ≤ D → w.heap.size ≤ W.heap.size → pre <+: xs → Ix c pre W → W.heap[D]? = some (.deferred (some [])) → c.wpIn Fence.wide n P Q { a with defers := { target := .collected D, args := #[] } :: a.defers } W) :
    (Code.rangeFunc g ps assign body).wpIn Fence.wide n P Q a w := by
  refine wpIn_rangeFunc ?_
  intro fn hfn
  obtain ⟨mk, hmk⟩ : ∃ mk : LoopState → Option Code → Loop, mk = fun st pe => { state := st, pending := pe, fn, tmps := a.tmps, params := ps, assign, body, defers := w.heap.size } := ⟨_, rfl⟩
  obtain ⟨V, hV⟩ : ∃ V, (w.alloc (.deferred (some []))).alloc (.loop (mk .ready none)) = V := ⟨_, rfl⟩
  have hsz : V.heap.size = w.heap.size + 2 := by rw [← hV]; simp
  have hbV : Ch ck w.heap.size w V := by rw [← hV]; exact (Ch.alloc (Nat.le_refl _) _).trans (Ch.alloc (by simp) _)
  have hLV : V.heap[w.heap.size + 1]? = some (.loop (mk .ready none)) := by
    rw [← hV]; have := World.alloc_heap_new (w.alloc (.deferred (some []))) (.loop (mk .ready none)); rwa [World.size_alloc] at this
  have hDV : V.heap[w.heap.size]? = some (.deferred (some [])) := by
    rw [← hV]; exact (Below.heap_alloc _ _ _ (by simp)).trans (World.alloc_heap_new w _)
  refine ⟨w.heap.size + 1, [{ target := .collected w.heap.size, args := #[] }], V, { target := .fn (.func gf) lb, args := #[.func (.yield (w.heap.size + 1)) #[] #[]] }, V, gf,
    #[.func (.yield (w.heap.size + 1)) #[] #[]] ++ lb, V, ?_, ?_, fun _ _ => trivial, ?_, fun h => (by cases h), ?_⟩
  · rw [← hV, hmk]; exact run_enterLoop_outer _ _ _ _ _
  · simp only [resolve, hg]
    simp [go_sem]
  · simp [invoke, go_sem, eg]
  · refine (hseq (n - 1) (w.heap.size + 1)
      (fun pre W => I pre W ∧ W.heap[w.heap.size + 1]? = some (.loop (mk .ready none)) ∧ W.heap[w.heap.size]? = some (.deferred (some [])))
      (fun pre W => ∃ c, Ix c pre W ∧ W.heap[w.heap.size + 1]? = some (.loop (mk .done (some c))) ∧ W.heap[w.heap.size]? = some (.deferred (some [])))
      V (fun pre X h => hOk pre X h.1)
      (fun pre X Y h hb => ⟨hI pre X Y h.1 (hb.mono (by omega)), (hb.below.block _ (by omega)).trans h.2.1, (hb.below.block _ (by omega)).trans h.2.2⟩)
      (fun pre X Y h hb => by
        obtain ⟨c, hc, hl, hk⟩ := h
        exact ⟨c, hIx c pre X Y hc (hb.mono (by omega)), (hb.below.block _ (by omega)).trans hl, (hb.below.block _ (by omega)).trans hk⟩)
      ?_ ⟨hI [] w V h0 hbV, hLV, hDV⟩).mono ?_
    · rintro m pre x X ⟨hi, hl, hk⟩ hpre hXs
      have hy := run_yield (P := P) (args := encs x) hl (by rw [hmk]; exact hps x)
      rw [hmk] at hy
      refine ⟨fn, _, assign, body, hy, roundIn_of_wpIn hfn (hassign _ _ x X _ ⟨_, run_beginRound hl (by rw [hmk]), ?_⟩)⟩
      have hlt : w.heap.size + 1 < X.heap.size := (Array.getElem?_eq_some_iff.1 hl).1
      obtain ⟨X2, hX2⟩ : ∃ X2, X.putObj (w.heap.size + 1) (.loop { mk .ready none with state := .busy }) = X2 := ⟨_, rfl⟩
      rw [hX2]
      have hl2 : X2.heap[w.heap.size + 1]? = some (.loop { mk .ready none with state := .busy }) := by rw [← hX2]; exact World.putObj_heap_same hlt
      have hk2 : X2.heap[w.heap.size]? = some (.deferred (some [])) := by rw [← hX2]; exact (World.putObj_heap_other (by omega)).trans hk
      have hb2 : Ch ck w.heap.size X X2 := by rw [← hX2]; exact Ch.put (by omega) hl rfl _
      have hy2 : Beyond V.heap.size X X2 := by rw [← hX2]; exact Beyond.putObj X (by omega) _
      have hs2 : X2.heap.size = X.heap.size := by rw [← hX2]; simp
      refine wpIn_mono (hbody _ _ pre x X2 (hI _ _ _ hi hb2) hpre (by omega)) ?_
      have fin : ∀ (jump : Option Code) (Y : World), Beyond w.heap.size X2 Y →
          (Instr.endRound (w.heap.size + 1) jump).run P Y = .ok (.bool jump.isNone) (Y.putObj (w.heap.size + 1) (.loop (mk (if jump.isNone then .ready else .done) jump))) ∧
          Ch ck w.heap.size Y (Y.putObj (w.heap.size + 1) (.loop (mk (if jump.isNone then .ready else .done) jump))) ∧
          (Y.putObj (w.heap.size + 1) (.loop (mk (if jump.isNone then .ready else .done) jump))).heap[w.heap.size + 1]? = some (.loop (mk (if jump.isNone then .ready else .done) jump)) ∧
          (Y.putObj (w.heap.size + 1) (.loop (mk (if jump.isNone then .ready else .done) jump))).heap[w.heap.size]? = some (.deferred (some [])) ∧
          Beyond V.heap.size X (Y.putObj (w.heap.size + 1) (.loop (mk (if jump.isNone then .ready else .done) jump))) := fun jump Y hY => by
        have hl3 := (hY.same _ (by omega) (by omega)).trans hl2
        have hr := run_endRound (P := P) jump hl3
        have hlt3 : w.heap.size + 1 < Y.heap.size := (Array.getElem?_eq_some_iff.1 hl3).1
        refine ⟨by rw [hr, hmk], Ch.put (by omega) hl3 rfl _, World.putObj_heap_same hlt3, (World.putObj_heap_other (by omega)).trans ((hY.same _ (Nat.le_refl _) (by omega)).trans hk2), ?_⟩
        exact hy2.trans ((hY.mono (by omega)).trans (Beyond.putObj Y (by omega) _))
      rintro e a3 Y hp
      cases e with
      | normal =>
        obtain ⟨hY, hi3⟩ := hp
        obtain ⟨hr, hb3, hl4, hk4, hy4⟩ := fin none Y hY
        exact ⟨_, _, hr, hy4, .inl ⟨rfl, hI _ _ _ hi3 hb3, hl4, hk4⟩⟩
      | ret =>
        obtain ⟨hY, hi3⟩ := hp
        obtain ⟨hr, hb3, hl4, hk4, hy4⟩ := fin (some .ret) Y hY
        exact ⟨_, _, hr, hy4, .inr ⟨rfl, .ret, hIx _ _ _ _ hi3 hb3, hl4, hk4⟩⟩
      | exit id =>
        obtain ⟨hY, hi3⟩ := hp
        obtain ⟨hr, hb3, hl4, hk4, hy4⟩ := fin (some (.exit id)) Y hY
        exact ⟨_, _, hr, hy4, .inr ⟨rfl, .exit id, hIx _ _ _ _ hi3 hb3, hl4, hk4⟩⟩
      | goto t =>
        obtain ⟨hY, hi3⟩ := hp
        obtain ⟨hr, hb3, hl4, hk4, hy4⟩ := fin (some (.goto t)) Y hY
        exact ⟨_, _, hr, hy4, .inr ⟨rfl, .goto t, hIx _ _ _ _ hi3 hb3, hl4, hk4⟩⟩
      | panic ch => exact hp.elim
      | outgrown => exact hp.elim
    · rintro e Y ⟨⟨v, rfl⟩, hYs, (⟨hi, hl, hk⟩ | ⟨pre, hpre, c, hi, hl, hk⟩)⟩
      · exact ⟨none, _, by have := run_endLoop (P := P) hl (by rw [hmk]; simp); rw [hmk] at this; exact this, hdone _ _ (Nat.le_refl _) (by simp; omega) (hI _ _ _ hi (Ch.put (by omega) hl rfl _)) ((World.putObj_heap_other (by omega)).trans hk)⟩
      · exact ⟨some c, _, by have := run_endLoop (P := P) hl (by rw [hmk]; simp); rw [hmk] at this; exact this, hstop _ c pre _ (Nat.le_refl _) (by simp; omega) hpre (hIx _ _ _ _ hi (Ch.put (by omega) hl rfl _)) ((World.putObj_heap_other (by omega)).trans hk)⟩
end Go.Proofs.YtfadjgaledddjaaGreatDoor

/- The mathematics of neutral: sides, what was met last on a way, the sides that neutral types get, implicit levels. -/
namespace Go.Proofs.YtfadjgaledddjaaGreatDoor
set_option linter.unusedVariables false
namespace Ne
/-- A type's side; 0: it has none. -/
def sd (x : Int) : Int := if x = 1 then 1 else if x = 2 ∨ x = 4 ∨ x = 7 then 2 else 0
/-- A neutral type. -/
def neu (x : Int) : Bool := x == 11 || x == 12 || x == 13 || x == 14 || x == 20 || x == 21 || x == 22 || x == 23
def May (x : Int) : Prop := sd x ≠ 0 ∨ neu x = true
instance (x : Int) : Decidable (May x) := inferInstanceAs (Decidable (_ ∨ _))
def Ok (t : List Int) : Prop := ∀ i, i < t.length → May (t.getD i 0)
/-- The side of a level. -/
def es (lv : Int) : Int := if lv % 2 = 1 then 2 else 1
/-- The side met last among the first k places. -/
def ah (t : List Int) (s : Int) : Nat → Int
  | 0 => s
  | k + 1 => if sd (t.getD k 0) = 0 then ah t s k else sd (t.getD k 0)
/-- A place's type behind the rules. -/
def r1 (t : List Int) (lv so eo : Int) (i : Nat) : Int :=
  if sd (t.getD i 0) = 0 then (if ah t so (i + 1) = ah t.reverse eo (t.length - i) then ah t so (i + 1) else es lv) else t.getD i 0
def RS (t : List Int) (lv so eo : Int) : List Int := (List.range t.length).map (r1 t lv so eo)
def Good (lv so eo : Int) : Prop := 0 ≤ lv ∧ lv ≤ 126 ∧ (so = 1 ∨ so = 2) ∧ (eo = 1 ∨ eo = 2)
theorem sd_cases (x : Int) : sd x = 0 ∨ sd x = 1 ∨ sd x = 2 := by
  unfold sd
  by_cases h1 : x = 1
  · rw [if_pos h1]; exact .inr (.inl rfl)
  · rw [if_neg h1]
    by_cases h2 : x = 2 ∨ x = 4 ∨ x = 7
    · rw [if_pos h2]; exact .inr (.inr rfl)
    · rw [if_neg h2]; exact .inl rfl
theorem es_cases (lv : Int) : es lv = 1 ∨ es lv = 2 := by
  unfold es
  by_cases h : lv % 2 = 1
  · rw [if_pos h]; exact .inr rfl
  · rw [if_neg h]; exact .inl rfl
theorem ah_zero (t : List Int) (s : Int) : ah t s 0 = s := rfl
theorem ah_succ (t : List Int) (s : Int) (k : Nat) : ah t s (k + 1) = if sd (t.getD k 0) = 0 then ah t s k else sd (t.getD k 0) := rfl
theorem ah_cases (t : List Int) (s : Int) (hs : s = 1 ∨ s = 2) : ∀ k, ah t s k = 1 ∨ ah t s k = 2
  | 0 => hs
  | k + 1 => by
    rw [ah_succ]
    by_cases h : sd (t.getD k 0) = 0
    · rw [if_pos h]; exact ah_cases t s hs k
    · rw [if_neg h]; exact (sd_cases _).resolve_left h
theorem getD_map' {β : Type} (n : Nat) (f : Nat → β) (z : β) {j : Nat} (hj : j < n) : ((List.range n).map f).getD j z = f j := by
  simp [List.getD, hj]
theorem RS_len (t : List Int) (lv so eo : Int) : (RS t lv so eo).length = t.length := by simp [RS]
theorem RS_at (t : List Int) (lv so eo : Int) {i : Nat} (hi : i < t.length) : (RS t lv so eo).getD i 0 = r1 t lv so eo i := getD_map' _ _ _ hi
theorem getD_rev (t : List Int) {j : Nat} (hj : j < t.length) : t.reverse.getD j 0 = t.getD (t.length - 1 - j) 0 := by
  simp only [List.getD]
  rw [List.getElem?_reverse hj]
/-- P11.3. -/
theorem keeps (t : List Int) (lv so eo : Int) (hso : so = 1 ∨ so = 2) {i : Nat} (hi : i < t.length) :
    (sd (t.getD i 0) ≠ 0 → (RS t lv so eo).getD i 0 = t.getD i 0) ∧ (sd (t.getD i 0) = 0 → (RS t lv so eo).getD i 0 = 1 ∨ (RS t lv so eo).getD i 0 = 2) := by
  rw [RS_at _ _ _ _ hi]
  unfold r1
  refine ⟨fun h => if_neg h, fun h => ?_⟩
  rw [if_pos h]
  by_cases h2 : ah t so (i + 1) = ah t.reverse eo (t.length - i)
  · rw [if_pos h2]; exact ah_cases t so hso _
  · rw [if_neg h2]; exact es_cases lv
theorem turned (t : List Int) (lv so eo : Int) {i : Nat} (hi : i < t.length) : (RS t.reverse lv eo so).getD (t.length - 1 - i) 0 = (RS t lv so eo).getD i 0 := by
  rw [RS_at _ _ _ _ hi, RS_at _ _ _ _ (by rw [List.length_reverse]; omega)]
  unfold r1
  rw [getD_rev t (show t.length - 1 - i < t.length by omega), show t.length - 1 - (t.length - 1 - i) = i by omega, List.reverse_reverse, List.length_reverse, show t.length - 1 - i + 1 = t.length - i by omega, show t.length - (t.length - 1 - i) = i + 1 by omega]
  by_cases h : sd (t.getD i 0) = 0
  · rw [if_pos h, if_pos h]
    by_cases h2 : ah t so (i + 1) = ah t.reverse eo (t.length - i)
    · rw [if_pos h2, if_pos h2.symm, h2]
    · rw [if_neg h2, if_neg (fun e => h2 e.symm)]
  · rw [if_neg h, if_neg h]
theorem ok_rev {t : List Int} (h : Ok t) : Ok t.reverse := by
  intro i hi
  rw [List.length_reverse] at hi
  rw [getD_rev t hi]
  exact h _ (by omega)
/-- What stands behind a place with a side, up to the next one. -/
theorem ah_from (t : List Int) (s p : Int) (h0 : sd (t.getD 0 0) = p) (hp : p ≠ 0) : ∀ k, (∀ j, 0 < j → j ≤ k → sd (t.getD j 0) = 0) → ah t s (k + 1) = p
  | 0, _ => by rw [ah_succ, h0, if_neg hp]
  | k + 1, h => by
    rw [ah_succ, if_pos (h (k + 1) (by omega) (Nat.le_refl _))]
    exact ah_from t s p h0 hp k (fun j h1 h2 => h j h1 (by omega))
/-- Neutral types between two that have a side. -/
theorem between (t : List Int) (lv so eo p q : Int) (n : Nat) (hl : t.length = n + 2) (h0 : sd (t.getD 0 0) = p) (hp : p ≠ 0) (h1 : sd (t.getD (n + 1) 0) = q) (hq : q ≠ 0) (hm : ∀ j, 0 < j → j ≤ n → sd (t.getD j 0) = 0)
    {i : Nat} (hi : 0 < i) (hin : i ≤ n) : (RS t lv so eo).getD i 0 = if p = q then p else es lv := by
  rw [RS_at _ _ _ _ (by omega)]
  unfold r1
  rw [if_pos (hm i hi hin), ah_from t so p h0 hp i (fun j a b => hm j a (by omega))]
  have e : ah t.reverse eo (t.length - i) = q := by
    rw [show t.length - i = (n + 1 - i) + 1 by omega]
    refine ah_from _ _ _ ?_ hq _ (fun j a b => ?_)
    · rw [getD_rev t (by omega), hl]; exact h1
    · rw [getD_rev t (by omega), hl]; exact hm _ (by omega) (by omega)
  rw [e]
/-- One place on a way: what was met last, and what was written. -/
def stp (a : Int × List Int) (x : Nat × Int) : Int × List Int := (if sd x.2 = 0 then a.1 else sd x.2, a.2.set x.1 (if sd x.2 = 0 then a.1 else sd x.2))
def nr (s : Int) (n : Nat) (pre : List (Nat × Int)) : Int × List Int := pre.foldl stp (s, List.replicate n 0)
theorem nr_nil (s : Int) (n : Nat) : nr s n [] = (s, List.replicate n 0) := rfl
theorem nr_snoc (s : Int) (n : Nat) (pre : List (Nat × Int)) (x : Nat × Int) : nr s n (pre ++ [x]) = stp (nr s n pre) x := by simp [nr, List.foldl_append]
theorem nr_len (s : Int) (n : Nat) (pre : List (Nat × Int)) : (nr s n pre).2.length = n := by
  have : ∀ (l : List (Nat × Int)) (a : Int × List Int), (l.foldl stp a).2.length = a.2.length := by
    intro l
    induction l with
    | nil => intro a; rfl
    | cons x l ih => intro a; rw [List.foldl_cons, ih]; simp [stp]
  rw [nr, this]; simp
/-- The way onward; the way back. -/
def ups (t : List Int) : List (Nat × Int) := (List.range t.length).map fun k => (k, t.getD k 0)
def downs (t : List Int) : List (Nat × Int) := (List.range t.length).map fun k => (t.length - 1 - k, t.getD (t.length - 1 - k) 0)
theorem ups_len (t : List Int) : (ups t).length = t.length := by simp [ups]
theorem downs_len (t : List Int) : (downs t).length = t.length := by simp [downs]
theorem ups_at (t : List Int) {k : Nat} (h : k < t.length) : (ups t)[k]? = some (k, t.getD k 0) := by simp [ups, h]
theorem downs_at (t : List Int) {k : Nat} (h : k < t.length) : (downs t)[k]? = some (t.length - 1 - k, t.getD (t.length - 1 - k) 0) := by simp [downs, h]
theorem take_snoc2 {α : Type} (l : List α) (k : Nat) (x : α) (h : l[k]? = some x) : l.take (k + 1) = l.take k ++ [x] := by
  obtain ⟨hk, hx⟩ := List.getElem?_eq_some_iff.1 h
  rw [List.take_succ_eq_append_getElem hk, hx]
theorem set_map (n : Nat) (f g : Nat → Int) (i : Nat) (y : Int) (hi : g i = y) (ho : ∀ j, j ≠ i → g j = f j) : ((List.range n).map f).set i y = (List.range n).map g := by
  apply List.ext_getElem?
  intro j
  by_cases h : i = j
  · subst h
    by_cases hl : i < n
    · rw [List.getElem?_set_self (by simpa using hl)]; simp [hl, hi]
    · rw [List.getElem?_eq_none (by simp; omega), List.getElem?_eq_none (by simp; omega)]
  · rw [List.getElem?_set_ne h]
    by_cases hl : j < n
    · simp [hl, ho j (fun e => h e.symm)]
    · rw [List.getElem?_eq_none (by simp; omega), List.getElem?_eq_none (by simp; omega)]
theorem rep_map (n : Nat) : List.replicate n (0 : Int) = (List.range n).map fun _ => (0 : Int) := by
  apply List.ext_getElem?
  intro j
  by_cases hl : j < n
  · simp [hl]
  · rw [List.getElem?_eq_none (by simp; omega), List.getElem?_eq_none (by simp; omega)]
theorem nr_ups (t : List Int) (s : Int) : ∀ k, k ≤ t.length → nr s t.length ((ups t).take k) = (ah t s k, (List.range t.length).map fun i => if i < k then ah t s (i + 1) else 0)
  | 0, _ => by
    rw [List.take_zero, nr_nil, rep_map]; rfl
  | k + 1, h => by
    rw [take_snoc2 _ _ _ (ups_at t (show k < t.length by omega)), nr_snoc, nr_ups t s k (by omega)]
    unfold stp
    refine Prod.ext (ah_succ t s k).symm ?_
    dsimp only
    refine set_map _ _ _ _ _ ?_ (fun j hj => ?_)
    · rw [if_pos (by omega)]; exact ah_succ t s k
    · by_cases hk : j < k
      · rw [if_pos hk, if_pos (by omega)]
      · rw [if_neg hk, if_neg (by omega)]
theorem nr_downs (t : List Int) (s : Int) : ∀ k, k ≤ t.length → nr s t.length ((downs t).take k) = (ah t.reverse s k, (List.range t.length).map fun i => if t.length - k ≤ i then ah t.reverse s (t.length - i) else 0)
  | 0, _ => by
    rw [List.take_zero, nr_nil, rep_map]
    refine Prod.ext rfl ?_
    dsimp only
    apply List.map_congr_left
    intro i hi
    rw [if_neg (by have := List.mem_range.1 hi; omega)]
  | k + 1, h => by
    have hk : k < t.length := by omega
    have ea := ah_succ t.reverse s k
    rw [getD_rev t hk] at ea
    rw [take_snoc2 _ _ _ (downs_at t hk), nr_snoc, nr_downs t s k (by omega)]
    unfold stp
    refine Prod.ext ea.symm ?_
    dsimp only
    refine set_map _ _ _ _ _ ?_ (fun j hj => ?_)
    · rw [if_pos (by omega), show t.length - (t.length - 1 - k) = k + 1 by omega]; exact ea
    · by_cases hk : t.length - k ≤ j
      · rw [if_pos hk, if_pos (by omega)]
      · rw [if_neg hk, if_neg (by omega)]
/-- What nearest answers. -/
def AH (t : List Int) (s : Int) : List Int := (List.range t.length).map fun i => ah t s (i + 1)
def BH (t : List Int) (s : Int) : List Int := (List.range t.length).map fun i => ah t.reverse s (t.length - i)
theorem AH_len (t : List Int) (s : Int) : (AH t s).length = t.length := by simp [AH]
theorem BH_len (t : List Int) (s : Int) : (BH t s).length = t.length := by simp [BH]
theorem AH_at (t : List Int) (s : Int) {i : Nat} (h : i < t.length) : (AH t s).getD i 0 = ah t s (i + 1) := getD_map' _ _ _ h
theorem BH_at (t : List Int) (s : Int) {i : Nat} (h : i < t.length) : (BH t s).getD i 0 = ah t.reverse s (t.length - i) := getD_map' _ _ _ h
theorem nr_all_ups (t : List Int) (s : Int) : (nr s t.length (ups t)).2 = AH t s := by
  have h := nr_ups t s t.length (Nat.le_refl _)
  rw [← ups_len t, List.take_length, ups_len] at h
  rw [h]
  unfold AH
  dsimp only
  apply List.map_congr_left
  intro i hi
  rw [if_pos (List.mem_range.1 hi)]
theorem nr_all_downs (t : List Int) (s : Int) : (nr s t.length (downs t)).2 = BH t s := by
  have h := nr_downs t s t.length (Nat.le_refl _)
  rw [← downs_len t, List.take_length, downs_len] at h
  rw [h]
  unfold BH
  dsimp only
  apply List.map_congr_left
  intro i hi
  rw [if_pos (by omega)]
/-- The first k types behind the rules, the others nought. -/
def RL (t : List Int) (lv so eo : Int) (k : Nat) : List Int := (List.range t.length).map fun i => if i < k then r1 t lv so eo i else 0
theorem RL_zero (t : List Int) (lv so eo : Int) : RL t lv so eo 0 = List.replicate t.length 0 := by
  rw [rep_map]; rfl
theorem RL_succ (t : List Int) (lv so eo : Int) (k : Nat) : (RL t lv so eo k).set k (r1 t lv so eo k) = RL t lv so eo (k + 1) := by
  refine set_map _ _ _ _ _ (if_pos (by omega)) (fun j hj => ?_)
  by_cases hk : j < k
  · rw [if_pos hk, if_pos (by omega)]
  · rw [if_neg hk, if_neg (by omega)]
theorem RL_all (t : List Int) (lv so eo : Int) : RL t lv so eo t.length = RS t lv so eo := by
  unfold RL RS
  apply List.map_congr_left
  intro i hi
  rw [if_pos (List.mem_range.1 hi)]
/-- Implicit levels. -/
def lv1 (lv x : Int) : Int := if lv % 2 = 0 then (if x = 1 then lv else if x = 2 then lv + 1 else lv + 2) else (if x = 2 then lv else lv + 1)
def LS (t : List Int) (lv : Int) : List Int := (List.range t.length).map fun i => lv1 lv (t.getD i 0)
def LL (t : List Int) (lv : Int) (k : Nat) : List Int := (List.range t.length).map fun i => if i < k then lv1 lv (t.getD i 0) else 0
theorem LS_len (t : List Int) (lv : Int) : (LS t lv).length = t.length := by simp [LS]
theorem LS_at (t : List Int) (lv : Int) {i : Nat} (hi : i < t.length) : (LS t lv).getD i 0 = lv1 lv (t.getD i 0) := getD_map' _ _ _ hi
theorem LL_zero (t : List Int) (lv : Int) : LL t lv 0 = List.replicate t.length 0 := by
  rw [rep_map]; rfl
theorem LL_succ (t : List Int) (lv : Int) (k : Nat) : (LL t lv k).set k (lv1 lv (t.getD k 0)) = LL t lv (k + 1) := by
  refine set_map _ _ _ _ _ (if_pos (by omega)) (fun j hj => ?_)
  by_cases hk : j < k
  · rw [if_pos hk, if_pos (by omega)]
  · rw [if_neg hk, if_neg (by omega)]
theorem LL_all (t : List Int) (lv : Int) : LL t lv t.length = LS t lv := by
  unfold LL LS
  apply List.map_congr_left
  intro i hi
  rw [if_pos (List.mem_range.1 hi)]
def Sided (t : List Int) : Prop := ∀ i, i < t.length → sd (t.getD i 0) ≠ 0
theorem sided_cases {x : Int} (h : sd x ≠ 0) : x = 1 ∨ x = 2 ∨ x = 4 ∨ x = 7 := by
  unfold sd at h
  by_cases h1 : x = 1
  · exact .inl h1
  · rw [if_neg h1] at h
    by_cases h2 : x = 2 ∨ x = 4 ∨ x = 7
    · exact .inr h2
    · rw [if_neg h2] at h; exact absurd rfl h
theorem unsided {x : Int} (h : sd x = 0) : x ≠ 1 ∧ x ≠ 2 ∧ x ≠ 4 ∧ x ≠ 7 := by
  refine ⟨?_, ?_, ?_, ?_⟩ <;> (rintro rfl; revert h; decide)
/-- P11.2, P11.3. -/
theorem lv1_two {lv x : Int} (h : sd x ≠ 0) : lv ≤ lv1 lv x ∧ lv1 lv x ≤ lv + 2 ∧ ((lv1 lv x) % 2 = 1 ↔ x = 2) ∧ (x = 4 ∨ x = 7 → lv1 lv x ≠ lv) := by
  have hc := sided_cases h
  unfold lv1
  by_cases he : lv % 2 = 0
  · rw [if_pos he]
    rcases hc with rfl | rfl | rfl | rfl
    · rw [if_pos rfl]; omega
    · rw [if_neg (by omega), if_pos rfl]; omega
    · rw [if_neg (by omega), if_neg (by omega)]; omega
    · rw [if_neg (by omega), if_neg (by omega)]; omega
  · rw [if_neg he]
    rcases hc with rfl | rfl | rfl | rfl
    · rw [if_neg (by omega)]; omega
    · rw [if_pos rfl]; omega
    · rw [if_neg (by omega)]; omega
    · rw [if_neg (by omega)]; omega
/-- By how much a type is deeper. -/
def dp (x lv : Int) : Int := lv1 lv x - lv
/-- What Resolve and Levels answer. -/
def AR (t : List Int) (lv so eo : Int) (L : List Int) (E : Int) : Prop :=
  (¬ Good lv so eo ∧ L = [] ∧ E = 2) ∨ (Good lv so eo ∧ ¬ Ok t ∧ L = [] ∧ E = 50) ∨ (Good lv so eo ∧ Ok t ∧ L = RS t lv so eo ∧ E = 0)
theorem AR_some (t : List Int) (lv so eo : Int) : ∃ L E, AR t lv so eo L E := by
  by_cases hg : Good lv so eo
  · by_cases ho : Ok t
    · exact ⟨_, _, .inr (.inr ⟨hg, ho, rfl, rfl⟩)⟩
    · exact ⟨_, _, .inr (.inl ⟨hg, ho, rfl, rfl⟩)⟩
  · exact ⟨_, _, .inl ⟨hg, rfl, rfl⟩⟩
def Lev (lv : Int) : Prop := 0 ≤ lv ∧ lv ≤ 126
instance (lv : Int) : Decidable (Lev lv) := inferInstanceAs (Decidable (_ ∧ _))
def AL (t : List Int) (lv : Int) (L : List Int) (E : Int) : Prop :=
  (¬ Lev lv ∧ L = [] ∧ E = 2) ∨ (Lev lv ∧ ¬ Sided t ∧ L = [] ∧ E = 50) ∨ (Lev lv ∧ Sided t ∧ L = LS t lv ∧ E = 0)
theorem AL_some (t : List Int) (lv : Int) : ∃ L E, AL t lv L E := by
  by_cases hg : Lev lv
  · by_cases ho : Sided t
    · exact ⟨_, _, .inr (.inr ⟨hg, ho, rfl, rfl⟩)⟩
    · exact ⟨_, _, .inr (.inl ⟨hg, ho, rfl, rfl⟩)⟩
  · exact ⟨_, _, .inl ⟨hg, rfl, rfl⟩⟩
theorem ok_all {t : List Int} (h : ∀ x ∈ t, May x) : Ok t := by
  intro i hi
  have e : t.getD i 0 = t[i] := by simp [List.getD, List.getElem?_eq_getElem hi]
  rw [e]; exact h _ (List.getElem_mem _)
theorem sided_all {t : List Int} (h : ∀ x ∈ t, sd x ≠ 0) : Sided t := by
  intro i hi
  have e : t.getD i 0 = t[i] := by simp [List.getD, List.getElem?_eq_getElem hi]
  rw [e]; exact h _ (List.getElem_mem _)
end Ne
end Go.Proofs.YtfadjgaledddjaaGreatDoor

/- The small functions of neutral: isLevel, isSide, isNeutral, levelSide, deeper; the map of types with a side, has. -/
namespace Go.Proofs.YtfadjgaledddjaaGreatDoor
open Go.RowKit Go.Maps
set_option linter.unusedVariables false
set_option maxHeartbeats 1000000
set_option maxRecDepth 100000
theorem isLevel_any (x : Int) (w : World) : Calls Tryz.prog 121 #[.int .i64 x] w fun e w' => e = .returned (.bool (decide (Ne.Lev x))) ∧ w = w' := by
  have hc : (¬ 0 ≤ x ∧ decide (Ne.Lev x) = false) ∨ (0 ≤ x ∧ ¬ x ≤ 126 ∧ decide (Ne.Lev x) = false) ∨ (0 ≤ x ∧ x ≤ 126 ∧ decide (Ne.Lev x) = true) := by
    unfold Ne.Lev
    by_cases h0 : 0 ≤ x
    · by_cases h1 : x ≤ 126
      · exact .inr (.inr ⟨h0, h1, decide_eq_true ⟨h0, h1⟩⟩)
      · exact .inr (.inl ⟨h0, h1, decide_eq_false fun h => h1 h.2⟩)
    · exact .inl ⟨h0, decide_eq_false fun h => h0 h.1⟩
  rcases hc with ⟨h0, e⟩ | ⟨h0, h1, e⟩ | ⟨h0, h1, e⟩
  all_goals
    rw [e]; clear e
    go_enter Tryz.func121, Tryz.ntmps121
    go_wp2
    go_ret
    exact ⟨rfl, rfl⟩
def Sd (x : Int) : Prop := x = 1 ∨ x = 2
theorem sd_tests (x : Int) : x = 1 ∨ (¬ x = 1 ∧ x = 2) ∨ (¬ x = 1 ∧ ¬ x = 2 ∧ ¬ Sd x) := by unfold Sd; omega
instance (x : Int) : Decidable (Sd x) := inferInstanceAs (Decidable (_ ∨ _))
theorem isSide_any (x : Int) (w : World) : Calls Tryz.prog 122 #[.int .i64 x] w fun e w' => e = .returned (.bool (decide (Sd x))) ∧ w = w' := by
  rcases sd_tests x with rfl | ⟨h1, rfl⟩ | ⟨h1, h2, h3⟩
  rotate_left 2
  · rw [decide_eq_false h3]; clear h3
    go_enter Tryz.func122, Tryz.ntmps122
    go_wp2
    go_ret
    exact ⟨ret_bool (by simp [h1, h2]), rfl⟩
  all_goals
    go_enter Tryz.func122, Tryz.ntmps122
    go_wp2
    go_ret
    exact ⟨rfl, rfl⟩
theorem neu_cases (x : Int) : (x = 11) ∨ (¬ x = 11 ∧ x = 12) ∨ (¬ x = 11 ∧ ¬ x = 12 ∧ x = 13) ∨ (¬ x = 11 ∧ ¬ x = 12 ∧ ¬ x = 13 ∧ x = 14) ∨ (¬ x = 11 ∧ ¬ x = 12 ∧ ¬ x = 13 ∧ ¬ x = 14 ∧ x = 20) ∨ (¬ x = 11 ∧ ¬ x = 12 ∧ ¬ x = 13 ∧ ¬ x = 14 ∧ ¬ x = 20 ∧ x = 21) ∨ (¬ x = 11 ∧ ¬ x = 12 ∧ ¬ x = 13 ∧ ¬ x = 14 ∧ ¬ x = 20 ∧ ¬ x = 21 ∧ x = 22) ∨ (¬ x = 11 ∧ ¬ x = 12 ∧ ¬ x = 13 ∧ ¬ x = 14 ∧ ¬ x = 20 ∧ ¬ x = 21 ∧ ¬ x = 22 ∧ x = 23) ∨ (¬ x = 11 ∧ ¬ x = 12 ∧ ¬ x = 13 ∧ ¬ x = 14 ∧ ¬ x = 20 ∧ ¬ x = 21 ∧ ¬ x = 22 ∧ ¬ x = 23) := by omega
theorem isNeutral_any (x : Int) (w : World) : Calls Tryz.prog 125 #[.int .i64 x] w fun e w' => e = .returned (.bool (Ne.neu x)) ∧ w = w' := by
  rcases neu_cases x with rfl | ⟨h1, rfl⟩ | ⟨h1, h2, rfl⟩ | ⟨h1, h2, h3, rfl⟩ | ⟨h1, h2, h3, h4, rfl⟩ | ⟨h1, h2, h3, h4, h5, rfl⟩ | ⟨h1, h2, h3, h4, h5, h6, rfl⟩ | ⟨h1, h2, h3, h4, h5, h6, h7, rfl⟩ | ⟨h1, h2, h3, h4, h5, h6, h7, h8⟩
  rotate_left 8
  · have e : Ne.neu x = false := by simp [Ne.neu, h1, h2, h3, h4, h5, h6, h7, h8]
    rw [e]; clear e
    go_enter Tryz.func125, Tryz.ntmps125
    go_wp2
    go_ret
    exact ⟨rfl, rfl⟩
  all_goals
    go_enter Tryz.func125, Tryz.ntmps125
    go_wp2
    go_ret
    exact ⟨rfl, rfl⟩
theorem nlevelSide_any (lv : Int) (hl : 0 ≤ lv) (w : World) : Calls Tryz.prog 129 #[.int .i64 lv] w fun e w' => e = .returned (.int .i64 (Ne.es lv)) ∧ w = w' := by
  have ht : lv.tmod 2 = lv % 2 := Int.tmod_eq_emod_of_nonneg hl
  have h2 : lv % 2 = 0 ∨ lv % 2 = 1 := by omega
  rcases h2 with h2 | h2
  · have e : Ne.es lv = 1 := by unfold Ne.es; rw [if_neg (by omega)]
    rw [e]
    rw [h2] at ht
    clear e h2
    go_enter Tryz.func129, Tryz.ntmps129
    go_wp2
    go_ret
    exact ⟨rfl, rfl⟩
  · have e : Ne.es lv = 2 := by unfold Ne.es; rw [if_pos h2]
    rw [e]
    rw [h2] at ht
    clear e h2
    go_enter Tryz.func129, Tryz.ntmps129
    go_wp2
    go_ret
    exact ⟨rfl, rfl⟩
theorem deeper_any (x lv : Int) (hx : Ne.sd x ≠ 0) (hl : 0 ≤ lv) (w : World) : Calls Tryz.prog 130 #[.int .i64 x, .int .i64 lv] w fun e w' => e = .returned (.int .i64 (Ne.dp x lv)) ∧ w = w' := by
  have ht : lv.tmod 2 = lv % 2 := Int.tmod_eq_emod_of_nonneg hl
  have h2 : lv % 2 = 0 ∨ lv % 2 = 1 := by omega
  have HS := hide (nlevelSide_any lv hl w)
  have hx4 := Ne.sided_cases hx
  clear hx
  rcases h2 with h2 | h2
  · have e : Ne.es lv = 1 := by unfold Ne.es; rw [if_neg (by omega)]
    rw [e] at HS
    have hd : (x = 1 ∧ Ne.dp x lv = 0) ∨ (x = 2 ∧ Ne.dp x lv = 1) ∨ (x = 4 ∧ Ne.dp x lv = 2) ∨ (x = 7 ∧ Ne.dp x lv = 2) := by
      unfold Ne.dp Ne.lv1
      rw [if_pos h2]
      rcases hx4 with rfl | rfl | rfl | rfl
      · rw [if_pos rfl]; omega
      · rw [if_neg (by omega), if_pos rfl]; omega
      · rw [if_neg (by omega), if_neg (by omega)]; omega
      · rw [if_neg (by omega), if_neg (by omega)]; omega
    rw [h2] at ht
    clear e h2 hx4
    rcases hd with ⟨rfl, e⟩ | ⟨rfl, e⟩ | ⟨rfl, e⟩ | ⟨rfl, e⟩
    all_goals
      rw [e]; clear e
      go_enter Tryz.func130, Tryz.ntmps130
      go_wp2_with (go_at_call 129; refine HS.out.mono ?_; rintro e w' ⟨rfl, rfl⟩)
      go_ret
      exact ⟨rfl, rfl⟩
  · have e : Ne.es lv = 2 := by unfold Ne.es; rw [if_pos h2]
    rw [e] at HS
    have hd : (x = 1 ∧ Ne.dp x lv = 1) ∨ (x = 2 ∧ Ne.dp x lv = 0) ∨ (x = 4 ∧ Ne.dp x lv = 1) ∨ (x = 7 ∧ Ne.dp x lv = 1) := by
      unfold Ne.dp Ne.lv1
      rw [if_neg (by omega)]
      rcases hx4 with rfl | rfl | rfl | rfl
      · rw [if_neg (by omega)]; omega
      · rw [if_pos rfl]; omega
      · rw [if_neg (by omega)]; omega
      · rw [if_neg (by omega)]; omega
    rw [h2] at ht
    clear e h2 hx4
    rcases hd with ⟨rfl, e⟩ | ⟨rfl, e⟩ | ⟨rfl, e⟩ | ⟨rfl, e⟩
    all_goals
      rw [e]; clear e
      go_enter Tryz.func130, Tryz.ntmps130
      go_wp2_with (go_at_call 129; refine HS.out.mono ?_; rintro e w' ⟨rfl, rfl⟩)
      go_ret
      exact ⟨rfl, rfl⟩
/-- A map from ints that answers f. -/
def MK (f : Int → Option Int) (D : DataW Unit) : Prop := IsMap D ∧ ∀ z : Int, Maps.has D (.int .i64 z) = (f z).isSome ∧ ∀ zd, D.atKey (.int .i64 z) zd = match f z with | some y => .lit (.int .i64 y) | none => zd
theorem MK.nil : MK (fun _ => none) (.map []) := ⟨isMap_empty, fun z => ⟨rfl, fun zd => rfl⟩⟩
theorem MK.put {f : Int → Option Int} {D : DataW Unit} (h : MK f D) (k y : Int) : MK (fun z => if z = k then some y else f z) (D.put (.int .i64 k) (.lit (.int .i64 y))) := by
  refine ⟨h.1.put _ _, fun z => ?_⟩
  have ht : WideAt.IsKeyLit (Lit.int .i64 k) := trivial
  by_cases hz : z = k
  · subst hz
    dsimp only
    rw [if_pos rfl]
    exact ⟨has_put_same h.1 ht _, fun zd => atKey_put_same h.1 ht _ _⟩
  · have hne : (Lit.int .i64 z) ≠ (.int .i64 k) := fun e => hz (by simpa using e)
    dsimp only
    rw [if_neg hz]
    obtain ⟨h1, h2⟩ := h.2 z
    exact ⟨(has_put_other hne _).trans h1, fun zd => (atKey_put_other hne _ _).trans (h2 zd)⟩
theorem nlawInt : Keyed Tryz.prog 3 := int_keyed Tryz.underlying3
theorem nzeroInt (w : World) : (zeroValue 3).run Tryz.prog w = .ok (.int .i64 0) w := by kernel_rfl
/-- The map of types with a side lies at mp. -/
def SM (w : World) (mp : Nat) : Prop := ∃ D n, w.ownsMap Tryz.prog 3 (plainElem Tryz.prog 3) mp n D ∧ MK (fun z => if Ne.sd z = 0 then none else some (Ne.sd z)) D
theorem nownsMap_below {w w' : World} {mp n : Nat} {D : DataW Unit} (h : w.ownsMap Tryz.prog 3 (plainElem Tryz.prog 3) mp n D) (hb : Below w.heap.size w w') : w'.ownsMap Tryz.prog 3 (plainElem Tryz.prog 3) mp n D := by
  have hl := h.lt
  obtain ⟨es, clock, h1, h2⟩ := h
  exact ⟨es, clock, (hb.block mp hl).trans h1, h2⟩
theorem SM.below {w w' : World} {mp : Nat} (h : SM w mp) (hb : Below w.heap.size w w') : SM w' mp := by
  obtain ⟨D, n, h1, h2⟩ := h
  exact ⟨D, n, nownsMap_below h1 hb, h2⟩
theorem SM.lt {w : World} {mp : Nat} (h : SM w mp) : mp < w.heap.size := by
  obtain ⟨D, n, h1, h2⟩ := h
  exact h1.lt
/-- The map is asked. -/
theorem SM.look {w : World} {mp : Nat} (h : SM w mp) (z : Int) (hz : (Lit.int .i64 z).wf = true) :
    (Instr.lookup 108 (.map (some mp)) (.int .i64 z) true).run Tryz.prog w = .ok (.tuple #[.int .i64 (Ne.sd z), .bool (Ne.sd z != 0)]) w := by
  obtain ⟨D, n, ho, h⟩ := h
  obtain ⟨v, ps, h1, h2⟩ := ho.look_ok nlawInt Tryz.underlying108 (nzeroInt w) (plainElem_int (H := Unit) Tryz.underlying3 (q := .i64) (a := 0) (by decide)) (keyOf_int_mk Tryz.underlying3 hz)
  obtain ⟨c, rfl, h3, _⟩ := plainElem_int_inv Tryz.underlying3 h2
  obtain ⟨g1, g2⟩ := h.2 z
  rw [h1, g1]
  rw [g2] at h3
  dsimp only at h3 ⊢
  by_cases hs : Ne.sd z = 0
  · rw [if_pos hs] at h3 ⊢
    simp only [Prod.mk.injEq] at h3
    obtain ⟨h3, _⟩ := h3
    simp at h3
    subst h3
    rw [hs]; rfl
  · rw [if_neg hs] at h3 ⊢
    simp only [Prod.mk.injEq] at h3
    obtain ⟨h3, _⟩ := h3
    simp at h3
    subst h3
    rw [show (Ne.sd z != 0) = true from bne_iff_ne.2 hs]; rfl
theorem sides_fun : (fun z : Int => if z = 7 then some (2 : Int) else if z = 4 then some 2 else if z = 2 then some 2 else if z = 1 then some 1 else none) = fun z => if Ne.sd z = 0 then none else some (Ne.sd z) := by
  funext z
  unfold Ne.sd
  by_cases h1 : z = 1
  · subst h1; rfl
  · by_cases h2 : z = 2
    · subst h2; rfl
    · by_cases h4 : z = 4
      · subst h4; rfl
      · by_cases h7 : z = 7
        · subst h7; rfl
        · simp [h1, h2, h4, h7]
theorem nsides_any (w : World) : Calls Tryz.prog 123 #[] w fun e w' => e = .returned (.map (some w.heap.size)) ∧ SM w' w.heap.size ∧ KO w w' := by
  have hmm : ∀ w : World, (Instr.makeMap 108 none).run Tryz.prog w = .ok (.map (some w.heap.size)) (w.alloc (.map #[] 0)) := fun w => by
    simp [Instr.makeMap]
  have H0 := hide (World.ownsMap_made w Tryz.prog 3 (plainElem (H := Unit) Tryz.prog 3))
  have HB := hide ((Below.refl w.heap.size w).alloc (Nat.le_refl _) (.map #[] 0))
  have hk := fun (z : Int) (hz : (Lit.int .i64 z).wf = true) => keyOf_int_mk (P := Tryz.prog) Tryz.underlying3 hz
  have hv := fun (z : Int) (hz : (Lit.int .i64 z).wf = true) => plainElem_int (H := Unit) Tryz.underlying3 hz
  obtain ⟨w1, r1, o1, g1⟩ := H0.out.update nlawInt Tryz.underlying108 (by decide) (hk 1 (by decide)) (hv 1 (by decide))
  obtain ⟨w2, r2, o2, g2⟩ := o1.update nlawInt Tryz.underlying108 (by decide) (hk 2 (by decide)) (hv 2 (by decide))
  obtain ⟨w3, r3, o3, g3⟩ := o2.update nlawInt Tryz.underlying108 (by decide) (hk 4 (by decide)) (hv 2 (by decide))
  obtain ⟨w4, r4, o4, g4⟩ := o3.update nlawInt Tryz.underlying108 (by decide) (hk 7 (by decide)) (hv 2 (by decide))
  have h1 := HB.out.grown g1 HB.out.size (fun j hj => by cases hj; exact Nat.le_refl _)
  have h2 := h1.grown g2 h1.size (fun j hj => by cases hj; exact Nat.le_refl _)
  have h3 := h2.grown g3 h2.size (fun j hj => by cases hj; exact Nat.le_refl _)
  have HB4 := hide (h3.grown g4 h3.size (fun j hj => by cases hj; exact Nat.le_refl _))
  have HO4 := hide o4
  clear hk hv o1 o2 o3 o4 g1 g2 g3 g4 h1 h2 h3 HB H0
  go_enter Tryz.func123, Tryz.ntmps123
  go_wp2
  go_ret
  refine ⟨rfl, ⟨_, _, HO4.out, ?_⟩, HB4.out⟩
  rw [← sides_fun]
  exact (((MK.nil.put 1 1).put 2 2).put 4 2).put 7 2
theorem has_any (mp : Nat) (z : Int) (hz : (Lit.int .i64 z).wf = true) (w : World) (h : SM w mp) : Calls Tryz.prog 124 #[.map (some mp), .int .i64 z] w fun e w' => e = .returned (.bool (Ne.sd z != 0)) ∧ w = w' := by
  have hl := h.look z hz
  clear h hz
  generalize Ne.sd z = y at *
  generalize (y != 0) = b at *
  go_enter Tryz.func124, Tryz.ntmps124
  go_wp2
  go_ret
  exact ⟨rfl, rfl⟩
end Go.Proofs.YtfadjgaledddjaaGreatDoor

/- nearest: the side that was last met on a way, for either way (slices.All, slices.Backward). -/
namespace Go.Proofs.YtfadjgaledddjaaGreatDoor
open Go.RowKit Go.Shelf
set_option linter.unusedVariables false
set_option maxHeartbeats 1000000
set_option maxRecDepth 100000
attribute [local go_sem] Oper.semAt_some
theorem Row.ch {B : Nat} {X Y : World} (h : Ch true B X Y) {k : IntKind} {ao : Option Addr} {n cap : Nat} {t : List Int} (hr : Row k X ao n cap t) : Row k Y ao n cap t :=
  ⟨hr.len, hr.le, hr.max, fun h0 => by
    obtain ⟨b, off, e, hb, hc⟩ := hr.cells h0
    exact ⟨b, off, e, Nat.lt_of_lt_of_le hb h.below.size, fun i hi => h.cell (hc i hi)⟩, hr.nil⟩
/-- What a round is handed: a place, and what stands there. -/
def enc2 (x : Nat × Int) : Array Value := #[Value.int .i64 (x.1 : Int), Value.int .i64 x.2]
/-- slices.All's function. -/
theorem all1_seq (Bs : Nat) (ao : Option Addr) (n cap : Nat) (t : List Int) (hn : n ≤ 4611686018427387904) :
    Seq true Tryz.prog 147 #[.pointer (some ⟨Bs, 0, none⟩)] enc2 (Ne.ups t)
      (fun X => X.cell? ⟨Bs, 0, none⟩ = some (.slice ao n cap) ∧ Row .i64 X ao n cap t) := by
  intro m l J Jx W hOk hJ hJx hY h0
  obtain ⟨cB, hrow⟩ := hOk _ _ h0
  have hlen := hrow.len
  refine callsIn_of_wp Tryz.func147 rfl trivial ?_
  simp only [Tryz.ntmps147, List.size_toArray, List.length_cons, List.length_nil, Nat.reduceAdd, Nat.reduceSub, Array.replicate_succ, Array.replicate_zero, List.push_toArray, List.append_toArray, List.nil_append, List.cons_append]
  gi_wp2
  gi_loopw [7] (fun p wr => ∃ k : Nat, k ≤ n ∧ p = .int .i64 (k : Int) ∧ W.heap.size ≤ wr.heap.size ∧ J ((Ne.ups t).take k) wr) (fun p _ => n - (intOf p).toNat)
  case atStart => exact ⟨0, by omega, rfl, Nat.le_refl _, by simpa using h0⟩
  case round =>
    obtain ⟨k, hk, rfl, hsz, hJk⟩ := hrel
    obtain ⟨cB', hrow'⟩ := hOk _ _ hJk
    by_cases hlt : k < n
    · obtain ⟨b, off, hao, hbl, hc⟩ := hrow'.cells (by omega)
      have hci := hc k (by omega)
      have hin : (k : Int) < (n : Int) := by omega
      have hat := Ne.ups_at t (show k < t.length by omega)
      obtain ⟨p, hp⟩ : ∃ p, t.getD k 0 = p := ⟨_, rfl⟩
      rw [hp] at hci hat
      have htk := take_snoc' _ _ _ hat
      obtain ⟨fn, tmps, assign, body, hy, hR⟩ := hY (m - 1) _ (k, p) wr hJk (by rw [← htk]; exact prefix_take _ _) hsz
      rw [← htk] at hR
      dsimp only [enc2] at hy
      rw [hao] at cB'
      rw [hao]
      clear hat htk hp hc hrow' hrow cB hJk hao
      gi_wp2
      refine ⟨fun h => (by cases h), ?_⟩
      refine hR.mono ?_
      rintro e W3 ⟨hbey, (⟨rfl, hJ3⟩ | ⟨rfl, hJx3⟩)⟩
      · gi_wp2
        go_roundw
        case rel => exact ⟨k + 1, by omega, by go_num, Nat.le_trans hsz hbey.size, hJ3⟩
        case measure => simp [intOf]; omega
      · gi_wp2
        refine bodyPost_ret (results_none rfl _ _ _) rfl ?_
        exact ⟨⟨_, rfl⟩, Nat.le_trans hsz hbey.size, .inr ⟨_, prefix_take _ _, hJx3⟩⟩
    · obtain rfl : k = n := by omega
      have hne : ¬ ((k : Int) < (k : Int)) := by omega
      gi_wp2
      go_end0
      exact ⟨⟨_, rfl⟩, hsz, .inl (by rw [← hlen, ← Ne.ups_len, List.take_length] at hJk; exact hJk)⟩
/-- slices.Backward's function. -/
theorem back1_seq (Bs : Nat) (ao : Option Addr) (n cap : Nat) (t : List Int) (hn : n ≤ 4611686018427387904) :
    Seq true Tryz.prog 148 #[.pointer (some ⟨Bs, 0, none⟩)] enc2 (Ne.downs t)
      (fun X => X.cell? ⟨Bs, 0, none⟩ = some (.slice ao n cap) ∧ Row .i64 X ao n cap t) := by
  intro m l J Jx W hOk hJ hJx hY h0
  obtain ⟨cB, hrow⟩ := hOk _ _ h0
  have hlen := hrow.len
  refine callsIn_of_wp Tryz.func148 rfl trivial ?_
  simp only [Tryz.ntmps148, List.size_toArray, List.length_cons, List.length_nil, Nat.reduceAdd, Nat.reduceSub, Array.replicate_succ, Array.replicate_zero, List.push_toArray, List.append_toArray, List.nil_append, List.cons_append]
  have e1 : wrap64 ((n : Int) - 1) = (n : Int) - 1 := w64_small (by omega) (by omega)
  gi_wp2
  gi_loopw [3] (fun p wr => ∃ k : Nat, k ≤ n ∧ p = .int .i64 ((n : Int) - 1 - (k : Int)) ∧ W.heap.size ≤ wr.heap.size ∧ J ((Ne.downs t).take k) wr) (fun p _ => (intOf p + 1).toNat)
  case atStart => exact ⟨0, by omega, by simp, Nat.le_refl _, by simpa using h0⟩
  case round =>
    obtain ⟨k, hk, rfl, hsz, hJk⟩ := hrel
    obtain ⟨cB', hrow'⟩ := hOk _ _ hJk
    by_cases hlt : k < n
    · obtain ⟨i, hi⟩ : ∃ i : Nat, n - 1 - k = i := ⟨_, rfl⟩
      have hii : (n : Int) - 1 - (k : Int) = (i : Int) := by omega
      obtain ⟨b, off, hao, hbl, hc⟩ := hrow'.cells (by omega)
      have hci := hc i (by omega)
      have hin : (i : Int) < (n : Int) := by omega
      have hat := Ne.downs_at t (show k < t.length by omega)
      rw [hlen, hi] at hat
      obtain ⟨p, hp⟩ : ∃ p, t.getD i 0 = p := ⟨_, rfl⟩
      rw [hp] at hci hat
      have htk := take_snoc' _ _ _ hat
      obtain ⟨fn, tmps, assign, body, hy, hR⟩ := hY (m - 1) _ (i, p) wr hJk (by rw [← htk]; exact prefix_take _ _) hsz
      rw [← htk] at hR
      dsimp only [enc2] at hy
      rw [hii]
      rw [hao] at cB'
      have e2 : wrap64 ((i : Int) - 1) = (i : Int) - 1 := w64_small (by omega) (by omega)
      clear hat htk hp hc hrow' hrow cB hJk hao
      gi_wp2
      refine ⟨fun h => (by cases h), ?_⟩
      refine hR.mono ?_
      rintro e W3 ⟨hbey, (⟨rfl, hJ3⟩ | ⟨rfl, hJx3⟩)⟩
      · gi_wp2
        go_roundw
        case rel => exact ⟨k + 1, by omega, congrArg (Value.int .i64) (by omega), Nat.le_trans hsz hbey.size, hJ3⟩
        case measure => simp [intOf]
      · gi_wp2
        refine bodyPost_ret (results_none rfl _ _ _) rfl ?_
        exact ⟨⟨_, rfl⟩, Nat.le_trans hsz hbey.size, .inr ⟨_, prefix_take _ _, hJx3⟩⟩
    · obtain rfl : k = n := by omega
      have hii : (k : Int) - 1 - (k : Int) = -1 := by omega
      rw [hii]
      gi_wp2
      go_end0
      exact ⟨⟨_, rfl⟩, hsz, .inl (by rw [← hlen, ← Ne.downs_len, List.take_length] at hJk; exact hJk)⟩
theorem all_any (ao : Option Addr) (n cap : Nat) (w : World) :
    Calls Tryz.prog 127 #[.slice ao n cap] w fun e w' => e = .returned (.func (.func 147) #[] #[.pointer (some ⟨w.heap.size, 0, none⟩)]) ∧ w' = w.alloc (.cells #[.slice ao n cap] 24) := by
  go_enter Tryz.func127, Tryz.ntmps127
  go_wp2
  go_ret
  exact ⟨rfl, rfl⟩
theorem back_any (ao : Option Addr) (n cap : Nat) (w : World) :
    Calls Tryz.prog 128 #[.slice ao n cap] w fun e w' => e = .returned (.func (.func 148) #[] #[.pointer (some ⟨w.heap.size, 0, none⟩)]) ∧ w' = w.alloc (.cells #[.slice ao n cap] 24) := by
  go_enter Tryz.func128, Tryz.ntmps128
  go_wp2
  go_ret
  exact ⟨rfl, rfl⟩
end Go.Proofs.YtfadjgaledddjaaGreatDoor

/- nearest, behind whatever way. -/
namespace Go.Proofs.YtfadjgaledddjaaGreatDoor
open Go.RowKit Go.Shelf
set_option linter.unusedVariables false
set_option maxHeartbeats 1000000
set_option maxRecDepth 100000
attribute [local go_sem] Oper.semAt_some
theorem nmade_ints (n : Nat) (hn : n * 8 ≤ 140737488351232) : ∃ cur : Array Value, cur.toList = (List.replicate n (0 : Int)).map (Value.int .i64) ∧ ∀ W : World, (Instr.makeSlice 24 (.int .i64 (n : Int)) (.int .i64 (n : Int))).run Tryz.prog W = .ok (.slice (some ⟨W.heap.size, 0, none⟩) n n) (W.alloc (.cells cur 3)) := by
  obtain ⟨ii, hii, hy0, hy1, hy2⟩ := info_parts infoInt
  refine ⟨madeCells #[.int .i64 0] n, by simp [toList_madeCells_one], fun W => ?_⟩
  have h := run_make (P := Tryz.prog) W 24 3 ii _ Tryz.underlying24 hii hy0 .i64 .i64 (n : Int) (n : Int) (by omega) (Int.le_refl _) (by rw [hy2]; omega) (by omega)
  rw [h, hy1]
  simp [Value.cells]
theorem owns_at {w w' : World} {base e size n cap g : Nat} {xs : List Value} (h : w.ownsRow base e size (.slice (some ⟨g, 0, none⟩) n cap) n xs) (hb : w'.heap[g]? = w.heap[g]?) : w'.ownsRow base e size (.slice (some ⟨g, 0, none⟩) n cap) n xs := by
  refine ⟨h.1, ?_⟩
  rcases h.2 with ⟨h0, _⟩ | ⟨g', cap', cur, hv, hbs, hh, rest⟩
  · cases h0
  · cases hv
    exact .inr ⟨g, cap, cur, rfl, hbs, hb.trans hh, rest⟩
theorem nowns_ch {B : Nat} {X Y : World} {base e size n : Nat} {v : Value} {xs : List Value} (h : X.ownsRow base e size v n xs) (hc : Ch true B X Y) : Y.ownsRow base e size v n xs := by
  refine ⟨h.1, ?_⟩
  rcases h.2 with hn | ⟨g, cap, cur, rfl, hbs, hg, rest⟩
  · exact .inl hn
  · exact .inr ⟨g, cap, cur, rfl, hbs, hc.cells rfl _ _ hg rfl, rest⟩
/-- What nearest keeps on its way. -/
structure NW (w : World) (n mp : Nat) (a : Int × List Int) (X : World) : Prop where
  own : X.ownsRow w.heap.size 3 1 (.slice (some ⟨w.heap.size + 1, 0, none⟩) n n) n (a.2.map (Value.int .i64))
  bs : Boxed X w.heap.size 108 (.map (some mp))
  bm : Boxed X (w.heap.size + 2) 24 (.slice (some ⟨w.heap.size + 1, 0, none⟩) n n)
  bl : Boxed X (w.heap.size + 3) 3 (.int .i64 a.1)
  bel : Below w.heap.size w X
theorem NW.ch {w : World} {n mp : Nat} {a : Int × List Int} {X Y : World} {B : Nat} (h : NW w n mp a X) (hc : Ch true B X Y) (hB : w.heap.size ≤ B) : NW w n mp a Y :=
  ⟨nowns_ch h.own hc, hc.cells rfl _ _ h.bs rfl, hc.cells rfl _ _ h.bm rfl, hc.cells rfl _ _ h.bl rfl, h.bel.trans (hc.below.mono hB)⟩
theorem set_keeps (X : World) (b i : Nat) (v : Value) (k : Nat) (h : k ≠ b) : (X.setCell ⟨b, i, none⟩ v).heap[k]? = X.heap[k]? := Below.heap_setCell X _ _ _ h
theorem NW.last {w : World} {n mp : Nat} {a : Int × List Int} {X : World} (h : NW w n mp a X) (y : Int) : NW w n mp (y, a.2) (X.setCell ⟨w.heap.size + 3, 0, none⟩ (.int .i64 y)) :=
  ⟨owns_at h.own (set_keeps X _ _ _ _ (by omega)), (set_keeps X _ _ _ _ (by omega)).trans h.bs, (set_keeps X _ _ _ _ (by omega)).trans h.bm, h.bl.set _, h.bel.setCell (p := ⟨w.heap.size + 3, 0, none⟩) (Nat.le_add_right _ _) _⟩
theorem NW.met {w : World} {n mp : Nat} {a : Int × List Int} {X : World} (h : NW w n mp a X) (i : Nat) (y : Int) : NW w n mp (a.1, a.2.set i y) (X.setCell ⟨w.heap.size + 1, i, none⟩ (.int .i64 y)) :=
  ⟨owns_set h.own i y, (set_keeps X _ _ _ _ (by omega)).trans h.bs, (set_keeps X _ _ _ _ (by omega)).trans h.bm, (set_keeps X _ _ _ _ (by omega)).trans h.bl, h.bel.setCell (p := ⟨w.heap.size + 1, i, none⟩) (Nat.le_add_right _ _) _⟩
theorem NW.cell {w : World} {n mp : Nat} {a : Int × List Int} {X : World} (h : NW w n mp a X) {i : Nat} (hi : i < n) : X.cell? ⟨w.heap.size + 1, i, none⟩ = some (.int .i64 (a.2.getD i 0)) := owns_cell h.own i hi
/-- Where it begins. -/
theorem NW.start (w : World) (n mp : Nat) (s : Int) (cur : Array Value) (hc : cur.toList = (List.replicate n (0 : Int)).map (Value.int .i64)) (hn : n ≤ maxLen) :
    NW w n mp (s, List.replicate n 0) ((((w.alloc (.cells #[.map (some mp)] 108)).alloc (.cells cur 3)).alloc (.cells #[.slice (some ⟨w.heap.size + 1, 0, none⟩) n n] 24)).alloc (.cells #[.int .i64 s] 3)) := by
  obtain ⟨W1, h1⟩ : ∃ W1, w.alloc (.cells #[.map (some mp)] 108) = W1 := ⟨_, rfl⟩
  obtain ⟨W2, h2⟩ : ∃ W2, W1.alloc (.cells cur 3) = W2 := ⟨_, rfl⟩
  obtain ⟨W3, h3⟩ : ∃ W3, W2.alloc (.cells #[.slice (some ⟨w.heap.size + 1, 0, none⟩) n n] 24) = W3 := ⟨_, rfl⟩
  obtain ⟨W4, h4⟩ : ∃ W4, W3.alloc (.cells #[.int .i64 s] 3) = W4 := ⟨_, rfl⟩
  have s1 : W1.heap.size = w.heap.size + 1 := by rw [← h1]; simp
  have s2 : W2.heap.size = w.heap.size + 2 := by rw [← h2]; simp; omega
  have s3 : W3.heap.size = w.heap.size + 3 := by rw [← h3]; simp; omega
  have k1 : Below w.heap.size w W1 := by rw [← h1]; exact (Below.refl _ _).alloc (Nat.le_refl _) _
  have k2 : Below W1.heap.size W1 W2 := by rw [← h2]; exact (Below.refl _ _).alloc (Nat.le_refl _) _
  have k3 : Below W2.heap.size W2 W3 := by rw [← h3]; exact (Below.refl _ _).alloc (Nat.le_refl _) _
  have k4 : Below W3.heap.size W3 W4 := by rw [← h4]; exact (Below.refl _ _).alloc (Nat.le_refl _) _
  have b1 : W1.heap[w.heap.size]? = some (.cells #[.map (some mp)] 108 (0, 0)) := by rw [← h1]; exact World.alloc_heap_new w _
  have b2 : W2.heap[w.heap.size + 1]? = some (.cells cur 3 (0, 0)) := by rw [← h2, ← s1]; exact World.alloc_heap_new W1 _
  have b3 : W3.heap[w.heap.size + 2]? = some (.cells #[.slice (some ⟨w.heap.size + 1, 0, none⟩) n n] 24 (0, 0)) := by rw [← h3, ← s2]; exact World.alloc_heap_new W2 _
  have b4 : W4.heap[w.heap.size + 3]? = some (.cells #[.int .i64 s] 3 (0, 0)) := by rw [← h4, ← s3]; exact World.alloc_heap_new W3 _
  rw [h1, h2, h3, h4]
  refine ⟨?_, ?_, ?_, b4, ?_⟩
  · refine owns_block (cur := cur) ?_ hc (by simp) hn (by omega)
    exact (k4.block _ (by omega)).trans ((k3.block _ (by omega)).trans b2)
  · exact (k4.block _ (by omega)).trans ((k3.block _ (by omega)).trans ((k2.block _ (by omega)).trans b1))
  · exact (k4.block _ (by omega)).trans b3
  · exact k1.trans ((k2.mono (by omega)).trans ((k3.mono (by omega)).trans (k4.mono (by omega))))
theorem nearest_any (gf : Nat) (lb : Array Value) (eg : ∀ args w, (callFunc gf args).run Tryz.prog w = .ok (.enter gf args) w) (xs : List (Nat × Int)) (Ok : World → Prop) (hseq : Seq true Tryz.prog gf lb enc2 xs Ok)
    (n mp : Nat) (s : Int) (w : World) (hOk : ∀ X, KO w X → Ok X) (hn : n * 8 ≤ 140737488351232) (hx : ∀ x ∈ xs, x.1 < n ∧ (Lit.int .i64 x.2).wf = true) (hm : SM w mp) :
    Calls Tryz.prog 126 #[.func (.func gf) #[] lb, .int .i64 (n : Int), .map (some mp), .int .i64 s] w fun e w' =>
      ∃ g, e = .returned (.slice (some ⟨g, 0, none⟩) n n) ∧ Row .i64 w' (some ⟨g, 0, none⟩) n n (Ne.nr s n xs).2 ∧ KO w w' := by
  obtain ⟨cur, hcl, hmk⟩ := nmade_ints n hn
  have HCL := hide hcl
  have HX := hide hx
  have HM := hide hm
  have HN := hide hn
  clear hcl hx hm hn
  refine (callsIn_wide (n := 3)).1 ?_
  refine callsIn_of_wp_marks Tryz.func126 rfl trivial ?_
  simp only [Tryz.ntmps126, List.size_toArray, List.length_cons, List.length_nil, Nat.reduceAdd, Nat.reduceSub, Array.replicate_succ, Array.replicate_zero, List.push_toArray, List.append_toArray, List.nil_append, List.cons_append]
  gi_wp2_with fail
  obtain ⟨W0, hW0⟩ : ∃ W0, ((((w.alloc (Obj.cells #[Value.map (some mp)] 108)).alloc (Obj.cells cur 3)).alloc (Obj.cells #[Value.slice (some ⟨w.heap.size + 1, 0, none⟩) n n] 24)).alloc (Obj.cells #[Value.int IntKind.i64 s] 3)) = W0 := ⟨_, rfl⟩
  have h0 := NW.start w n mp s cur HCL.out (by unfold maxLen; have := HN.out; omega)
  have hsz : W0.heap.size = w.heap.size + 4 := by rw [← hW0]; simp
  rw [hW0] at h0 ⊢
  clear hW0
  apply wpIn_range (ck := true) (gf := gf) (lb := lb) rfl eg hseq (fun _ => rfl)
    (fun pre X => NW w n mp (Ne.nr s n pre) X) (fun _ _ _ => False) (fun pre X h => hOk X h.bel) (fun pre X Y h hc => h.ch hc (by omega)) (fun _ _ _ _ h _ => h) h0 _ ?assign ?body ?done ?stop
  case assign =>
    intro m l x W K hK
    unfold enc2
    gi_wp2
    exact hK
  case body =>
    rintro m l pre x X hT hpre hXs
    have hmem : x ∈ xs := by
      have := List.mem_of_getElem? (prefix_at hpre).1
      exact this
    have hx1 := (HX.out x hmem).1
    have hlk := (HM.out.below hT.bel).look x.2 (HX.out x hmem).2
    obtain ⟨i, z⟩ := x
    dsimp only at hx1 hlk
    have hin : (i : Int) < (n : Int) := by omega
    have HSN := hide (Ne.nr_snoc s n pre (i, z))
    unfold Ne.stp at HSN
    dsimp only at HSN
    generalize Ne.nr s n pre = a at *
    have cs := hT.bs.cell
    have cm := hT.bm.cell
    have cl := hT.bl.cell
    have fl := hT.bl.frozen
    have cx := hT.cell hx1
    have fx := hT.own.frozenAt i
    have HT := hide hT
    have HSZ := hide hsz
    have HI := hide hx1
    clear hmem hpre hXs hx1 hT hsz h0 hOk hseq eg hmk
    generalize hQ : rPost _ _ _ _ X = Q
    have HQ := hide hQ
    clear hQ
    by_cases hs : Ne.sd z = 0
    · rw [if_pos hs] at HSN
      rw [hs] at hlk
      gi_wp2
      rw [← HQ.out]
      refine ⟨Beyond.setCell X (p := ⟨w.heap.size + 1, i, none⟩) (by show w.heap.size + 1 < _; have := HSZ.out; omega) _, ?_⟩
      show NW w n mp (Ne.nr s n (pre ++ [(i, z)])) _
      rw [HSN.out]
      exact HT.out.met i a.1
    · rw [if_neg hs] at HSN
      have hb : (Ne.sd z != 0) = true := bne_iff_ne.2 hs
      clear hs
      rw [hb] at hlk
      clear hb
      generalize Ne.sd z = y at *
      have HT2 := hide (HT.out.last y)
      have cm2 := HT2.out.bm.cell
      have cl2 := HT2.out.bl.cell
      have cx2 := HT2.out.cell HI.out
      have fx2 := HT2.out.own.frozenAt i
      obtain ⟨X2, hX2⟩ : ∃ X2, X.setCell ⟨w.heap.size + 3, 0, none⟩ (.int .i64 y) = X2 := ⟨_, rfl⟩
      rw [hX2] at HT2 cm2 cl2 cx2 fx2
      gi_wp2
      rw [← HQ.out]
      refine ⟨(Beyond.setCell X (p := ⟨w.heap.size + 3, 0, none⟩) (by show w.heap.size + 3 < _; have := HSZ.out; omega) (.int .i64 y)).trans (by rw [hX2]; exact Beyond.setCell X2 (p := ⟨w.heap.size + 1, i, none⟩) (by show w.heap.size + 1 < _; have := HSZ.out; omega) _), ?_⟩
      show NW w n mp (Ne.nr s n (pre ++ [(i, z)])) _
      rw [HSN.out]
      exact HT2.out.met i y
  case done =>
    rintro D W hD hWs hM hK
    have cm := hM.bm.cell
    have HM2 := hide hM
    have HD := hide hD
    have HSZ := hide hsz
    clear hM hD hWs h0 hsz hOk hseq eg hmk
    gi_wp2
    refine ⟨by simp, .inl ⟨_, _, rfl, run_takeDeferred hK, ?_⟩⟩
    have hc : Ch true w.heap.size W (W.putObj D (.deferred none)) := Ch.put (by have := HD.out; have := HSZ.out; omega) hK rfl _
    have hM := HM2.out.ch hc (Nat.le_refl _)
    exact ⟨_, results_tmp rfl _ _ _, w.heap.size + 1, rfl, row_owned hM.own, hM.bel⟩
  case stop =>
    rintro D c pre W _ _ _ h _
    exact h.elim
end Go.Proofs.YtfadjgaledddjaaGreatDoor

/- Resolve. -/
namespace Go.Proofs.YtfadjgaledddjaaGreatDoor
open Go.RowKit
set_option linter.unusedVariables false
set_option maxHeartbeats 1000000
set_option maxRecDepth 100000
def WF (t : List Int) : Prop := ∀ x ∈ t, (Lit.int .i64 x).wf = true
theorem WF.at {t : List Int} (h : WF t) (i : Nat) : (Lit.int .i64 (t.getD i 0)).wf = true := by
  by_cases hi : i < t.length
  · rw [show t.getD i 0 = t[i] from by simp [List.getD, List.getElem?_eq_getElem hi]]
    exact h _ (List.getElem_mem _)
  · rw [show t.getD i 0 = 0 from by simp [List.getD, List.getElem?_eq_none (Nat.not_lt.1 hi)]]
    decide
theorem ups_wf {t : List Int} {n : Nat} (h : WF t) (hl : t.length = n) : ∀ x ∈ Ne.ups t, x.1 < n ∧ (Lit.int .i64 x.2).wf = true := by
  intro x hx
  unfold Ne.ups at hx
  obtain ⟨k, hk, rfl⟩ := List.mem_map.1 hx
  have := List.mem_range.1 hk
  exact ⟨by omega, h.at k⟩
theorem downs_wf {t : List Int} {n : Nat} (h : WF t) (hl : t.length = n) : ∀ x ∈ Ne.downs t, x.1 < n ∧ (Lit.int .i64 x.2).wf = true := by
  intro x hx
  unfold Ne.downs at hx
  obtain ⟨k, hk, rfl⟩ := List.mem_map.1 hx
  have := List.mem_range.1 hk
  exact ⟨by show t.length - 1 - k < n; omega, h.at _⟩
theorem KO.new {w w' : World} (h : KO w w') (v : Value) (t : TypeId) {X : World} (hX : KO (w'.alloc (.cells #[v] t)) X) : X.cell? ⟨w'.heap.size, 0, none⟩ = some v := by
  have h1 := Boxed.new w' t v
  have h2 : X.heap[w'.heap.size]? = some (.cells #[v] t (0, 0)) := (Below.block hX _ (by simp)).trans h1
  simp [World.cell?, h2]
/-- nearest, onward. -/
theorem near_up (ao : Option Addr) (n cap mp : Nat) (s : Int) (t : List Int) (w : World) (h : Row .i64 w ao n cap t) (hf : WF t) (hn : n * 8 ≤ 140737488351232) (hm : SM w mp) :
    Calls Tryz.prog 126 #[.func (.func 147) #[] #[.pointer (some ⟨w.heap.size, 0, none⟩)], .int .i64 (n : Int), .map (some mp), .int .i64 s] (w.alloc (.cells #[.slice ao n cap] 24)) fun e w' =>
      ∃ g, e = .returned (.slice (some ⟨g, 0, none⟩) n n) ∧ Row .i64 w' (some ⟨g, 0, none⟩) n n (Ne.AH t s) ∧ KO w w' := by
  have hka : KO w (w.alloc (.cells #[.slice ao n cap] 24)) := KO.alloc (KO.refl _) _
  refine (nearest_any _ _ (enters_of Tryz.func147 (by kernel_rfl) rfl) (Ne.ups t) _ (all1_seq w.heap.size ao n cap t (by omega)) n mp s _ (fun X hX => ⟨KO.new (KO.refl w) _ _ hX, h.below (KO.on hka hX)⟩) hn (ups_wf hf h.len) (hm.below hka)).mono ?_
  rintro e w' ⟨g, rfl, hr, hk⟩
  refine ⟨g, rfl, ?_, KO.on hka hk⟩
  rw [← h.len, Ne.nr_all_ups] at hr
  rw [← h.len]; exact hr
/-- nearest, backward. -/
theorem near_down (ao : Option Addr) (n cap mp : Nat) (s : Int) (t : List Int) (w : World) (h : Row .i64 w ao n cap t) (hf : WF t) (hn : n * 8 ≤ 140737488351232) (hm : SM w mp) :
    Calls Tryz.prog 126 #[.func (.func 148) #[] #[.pointer (some ⟨w.heap.size, 0, none⟩)], .int .i64 (n : Int), .map (some mp), .int .i64 s] (w.alloc (.cells #[.slice ao n cap] 24)) fun e w' =>
      ∃ g, e = .returned (.slice (some ⟨g, 0, none⟩) n n) ∧ Row .i64 w' (some ⟨g, 0, none⟩) n n (Ne.BH t s) ∧ KO w w' := by
  have hka : KO w (w.alloc (.cells #[.slice ao n cap] 24)) := KO.alloc (KO.refl _) _
  refine (nearest_any _ _ (enters_of Tryz.func148 (by kernel_rfl) rfl) (Ne.downs t) _ (back1_seq w.heap.size ao n cap t (by omega)) n mp s _ (fun X hX => ⟨KO.new (KO.refl w) _ _ hX, h.below (KO.on hka hX)⟩) hn (downs_wf hf h.len) (hm.below hka)).mono ?_
  rintro e w' ⟨g, rfl, hr, hk⟩
  refine ⟨g, rfl, ?_, KO.on hka hk⟩
  rw [← h.len, Ne.nr_all_downs] at hr
  rw [← h.len]; exact hr
theorem good_cases (lv so eo : Int) : (Ne.Good lv so eo ∧ decide (Ne.Lev lv) = true ∧ decide (Sd so) = true ∧ decide (Sd eo) = true) ∨ (¬ Ne.Good lv so eo ∧ (decide (Ne.Lev lv) = false ∨ (decide (Ne.Lev lv) = true ∧ decide (Sd so) = false) ∨ (decide (Ne.Lev lv) = true ∧ decide (Sd so) = true ∧ decide (Sd eo) = false))) := by
  by_cases h1 : Ne.Lev lv
  · by_cases h2 : Sd so
    · by_cases h3 : Sd eo
      · exact .inl ⟨⟨h1.1, h1.2, h2, h3⟩, decide_eq_true h1, decide_eq_true h2, decide_eq_true h3⟩
      · exact .inr ⟨fun h => h3 h.2.2.2, .inr (.inr ⟨decide_eq_true h1, decide_eq_true h2, decide_eq_false h3⟩)⟩
    · exact .inr ⟨fun h => h2 h.2.2.1, .inr (.inl ⟨decide_eq_true h1, decide_eq_false h2⟩)⟩
  · exact .inr ⟨fun h => h1 ⟨h.1, h.2.1⟩, .inl (decide_eq_false h1)⟩
theorem nresolve_bad (ao : Option Addr) (n cap : Nat) (lv so eo : Int) (w : World) (hb : ¬ Ne.Good lv so eo) :
    Calls Tryz.prog 107 #[.slice ao n cap, .int .i64 lv, .int .i64 so, .int .i64 eo] w fun e w' => e = .returned (.tuple #[.slice none 0 0, .int .i64 2]) ∧ w = w' := by
  have hc := (good_cases lv so eo).resolve_left (fun h => hb h.1)
  have HL := hide (fun w' => isLevel_any lv w')
  have HS := hide (fun w' => isSide_any so w')
  have HE := hide (fun w' => isSide_any eo w')
  replace hc := hc.2
  clear hb
  rcases hc with h1 | ⟨h1, h2⟩ | ⟨h1, h2, h3⟩
  · rw [h1] at HL
    clear h1
    go_enter Tryz.func107, Tryz.ntmps107
    go_wp2_with (go_at_call 121; refine (HL.out _).mono ?_; rintro e w' ⟨rfl, rfl⟩)
    go_ret2
    exact ⟨rfl, rfl⟩
  · rw [h1] at HL
    rw [h2] at HS
    clear h1 h2
    go_enter Tryz.func107, Tryz.ntmps107
    go_wp2_with (first | (go_at_call 121; refine (HL.out _).mono ?_; rintro e w' ⟨rfl, rfl⟩) | (go_at_call 122; refine (HS.out _).mono ?_; rintro e w' ⟨rfl, rfl⟩))
    go_ret2
    exact ⟨rfl, rfl⟩
  · rw [h1] at HL
    rw [h2] at HS
    rw [h3] at HE
    clear h1 h2 h3
    go_enter Tryz.func107, Tryz.ntmps107
    go_wp2_with fail
    refine (HL.out _).mono ?_
    rintro e w' ⟨rfl, rfl⟩
    go_wp2_with fail
    refine (HS.out _).mono ?_
    rintro e w' ⟨rfl, rfl⟩
    go_wp2_with fail
    refine (HE.out _).mono ?_
    rintro e w' ⟨rfl, rfl⟩
    go_wp2
    go_ret2
    exact ⟨rfl, rfl⟩
theorem nmay_tests (x : Int) : (Ne.May x ∧ (Ne.sd x != 0) = true) ∨ (Ne.May x ∧ (Ne.sd x != 0) = false ∧ Ne.neu x = true) ∨ (¬ Ne.May x ∧ (Ne.sd x != 0) = false ∧ Ne.neu x = false) := by
  unfold Ne.May
  by_cases h : Ne.sd x = 0
  · rw [h]
    cases hn : Ne.neu x with
    | true => exact .inr (.inl ⟨.inr rfl, rfl, rfl⟩)
    | false => exact .inr (.inr ⟨by simp, rfl, rfl⟩)
  · exact .inl ⟨.inl h, bne_iff_ne.2 h⟩
theorem nresolve_form (ao : Option Addr) (n cap : Nat) (lv so eo : Int) (t : List Int) (w : World) (h : Row .i64 w ao n cap t) (hf : WF t) (hn : n * 8 ≤ 140737488351232) (hg : Ne.Good lv so eo) (ho : ¬ Ne.Ok t) :
    Calls Tryz.prog 107 #[.slice ao n cap, .int .i64 lv, .int .i64 so, .int .i64 eo] w fun e w' => e = .returned (.tuple #[.slice none 0 0, .int .i64 50]) ∧ KO w w' := by
  obtain ⟨_, h1, h2, h3⟩ := (good_cases lv so eo).resolve_right (fun h => h.1 hg)
  have HL := hide (fun w' => isLevel_any lv w')
  have HS := hide (fun w' => isSide_any so w')
  have HE := hide (fun w' => isSide_any eo w')
  rw [h1] at HL
  rw [h2] at HS
  rw [h3] at HE
  have hn2 : n ≤ 17592186044416 := by omega
  have HM := hide (nsides_any w)
  have H := hide h
  have HLEN := hide h.len
  have HO := hide ho
  have HF := hide hf
  clear h1 h2 h3 hg h ho hn hf
  go_enter Tryz.func107, Tryz.ntmps107
  go_wp2_with fail
  refine (HL.out _).mono ?_
  rintro e w' ⟨rfl, rfl⟩
  go_wp2_with fail
  refine (HS.out _).mono ?_
  rintro e w' ⟨rfl, rfl⟩
  go_wp2_with fail
  refine (HE.out _).mono ?_
  rintro e w' ⟨rfl, rfl⟩
  go_wp2_with fail
  refine HM.out.mono ?_
  rintro e w1 ⟨rfl, hm, hk⟩
  have HSM := hide hm
  have HK := hide hk
  clear hm hk HM HL HS HE
  go_wp2
  go_loopw [34] (fun v wr => ∃ k : Nat, v = .int .i64 (k : Int) ∧ k ≤ n ∧ Hid (∀ i, i < k → Ne.May (t.getD i 0)) ∧ w1 = wr) (fun v _ => n - (intOf v).toNat)
  case atStart => exact ⟨0, rfl, Nat.zero_le _, hide (fun i hi => by omega), rfl⟩
  case round =>
    obtain ⟨k, rfl, hk, hall, rfl⟩ := hrel
    by_cases hlt : k < n
    · obtain ⟨b, off, rfl, hbl, hc⟩ := (H.out.below HK.out).cells (by omega)
      have ck := hc k (by rw [HLEN.out]; exact hlt)
      have hin : (k : Int) < (n : Int) := by omega
      have HH := hide (has_any w.heap.size (t.getD k 0) (HF.out.at k) w1 HSM.out)
      have HNE := hide (fun w' => isNeutral_any (t.getD k 0) w')
      have HM := hide (meas_n0 n k hlt)
      have hcs := nmay_tests (t.getD k 0)
      have HST := hide (fun (hm : Ne.May (t.getD k 0)) (i : Nat) (hi : i < k + 1) => (show Ne.May (t.getD i 0) from by
        by_cases e : i = k
        · subst e; exact hm
        · exact hall.out i (by omega)))
      generalize t.getD k 0 = x at *
      clear hc hall
      rcases hcs with ⟨hm, e1⟩ | ⟨hm, e1, e2⟩ | ⟨hm, e1, e2⟩
      · have HA := hide (HST.out hm)
        rw [e1] at HH
        clear e1 hm HST
        go_wp2_with (go_at_call 124; refine HH.out.mono ?_; rintro e w' ⟨rfl, rfl⟩)
        go_roundw
        case rel => exact ⟨k + 1, by go_num, by omega, HA, trivial⟩
        case measure => exact HM.out
      · have HA := hide (HST.out hm)
        rw [e1] at HH
        rw [e2] at HNE
        clear e1 e2 hm HST
        go_wp2_with (first | (go_at_call 124; refine HH.out.mono ?_; rintro e w' ⟨rfl, rfl⟩) | (go_at_call 125; refine (HNE.out _).mono ?_; rintro e w' ⟨rfl, rfl⟩))
        go_roundw
        case rel => exact ⟨k + 1, by go_num, by omega, HA, trivial⟩
        case measure => exact HM.out
      · rw [e1] at HH
        rw [e2] at HNE
        clear e1 e2 hm HST
        go_wp2_with (first | (go_at_call 124; refine HH.out.mono ?_; rintro e w' ⟨rfl, rfl⟩) | (go_at_call 125; refine (HNE.out _).mono ?_; rintro e w' ⟨rfl, rfl⟩))
        go_ret2
        exact ⟨rfl, HK.out⟩
    · obtain rfl : k = n := by omega
      exact absurd (fun i hi => hall.out i (by rw [HLEN.out] at hi; exact hi)) HO.out
theorem sd_row {t : List Int} {lv so eo : Int} {k : Nat} (h : Ne.sd (t.getD k 0) ≠ 0) : Ne.r1 t lv so eo k = t.getD k 0 := by unfold Ne.r1; rw [if_neg h]
theorem nresolve_ok (ao : Option Addr) (n cap : Nat) (lv so eo : Int) (t : List Int) (w : World) (h : Row .i64 w ao n cap t) (hf : WF t) (hn : n * 8 ≤ 140737488351232) (hg : Ne.Good lv so eo) (ho : Ne.Ok t) :
    Calls Tryz.prog 107 #[.slice ao n cap, .int .i64 lv, .int .i64 so, .int .i64 eo] w fun e w' => ∃ g, e = .returned (.tuple #[.slice (some ⟨g, 0, none⟩) n n, .int .i64 0]) ∧ Row .i64 w' (some ⟨g, 0, none⟩) n n (Ne.RS t lv so eo) ∧ KO w w' := by
  obtain ⟨_, h1, h2, h3⟩ := (good_cases lv so eo).resolve_right (fun h => h.1 hg)
  have HL := hide (fun w' => isLevel_any lv w')
  have HS := hide (fun w' => isSide_any so w')
  have HE := hide (fun w' => isSide_any eo w')
  rw [h1] at HL
  rw [h2] at HS
  rw [h3] at HE
  have hn2 : n ≤ 17592186044416 := by omega
  have HM := hide (nsides_any w)
  have H := hide h
  have HLEN := hide h.len
  have HO := hide ho
  have HF := hide hf
  have HNN := hide hn
  have HLS := hide (fun w' => nlevelSide_any lv hg.1 w')
  obtain ⟨cur, hcl, hmk⟩ := nmade_ints n hn
  have HCL := hide hcl
  have HMK := hide hmk
  clear h1 h2 h3 hg h ho hn hf hcl hmk
  go_enter Tryz.func107, Tryz.ntmps107
  go_wp2_with fail
  refine (HL.out _).mono ?_
  rintro e w' ⟨rfl, rfl⟩
  go_wp2_with fail
  refine (HS.out _).mono ?_
  rintro e w' ⟨rfl, rfl⟩
  go_wp2_with fail
  refine (HE.out _).mono ?_
  rintro e w' ⟨rfl, rfl⟩
  go_wp2_with fail
  refine HM.out.mono ?_
  rintro e w1 ⟨rfl, hm, hk⟩
  have HSM := hide hm
  have HK := hide hk
  clear hm hk HM HL HS HE
  go_wp2
  go_loopw [34] (fun v wr => ∃ k : Nat, v = .int .i64 (k : Int) ∧ k ≤ n ∧ w1 = wr) (fun v _ => n - (intOf v).toNat)
  case atStart => exact ⟨0, rfl, Nat.zero_le _, rfl⟩
  case round =>
    obtain ⟨k, rfl, hk, rfl⟩ := hrel
    by_cases hlt : k < n
    · obtain ⟨b, off, rfl, hbl, hc⟩ := (H.out.below HK.out).cells (by omega)
      have ck := hc k (by rw [HLEN.out]; exact hlt)
      have hin : (k : Int) < (n : Int) := by omega
      have HH := hide (has_any w.heap.size (t.getD k 0) (HF.out.at k) w1 HSM.out)
      have HNE := hide (fun w' => isNeutral_any (t.getD k 0) w')
      have HM := hide (meas_n0 n k hlt)
      have hcs := nmay_tests (t.getD k 0)
      have hmay := HO.out k (by rw [HLEN.out]; exact hlt)
      generalize t.getD k 0 = x at *
      clear hc
      rcases hcs with ⟨hm, e1⟩ | ⟨hm, e1, e2⟩ | ⟨hm, e1, e2⟩
      · rw [e1] at HH
        clear e1 hm hmay
        go_wp2_with (go_at_call 124; refine HH.out.mono ?_; rintro e w' ⟨rfl, rfl⟩)
        go_roundw
        case rel => exact ⟨k + 1, by go_num, by omega, trivial⟩
        case measure => exact HM.out
      · rw [e1] at HH
        rw [e2] at HNE
        clear e1 e2 hm hmay
        go_wp2_with (first | (go_at_call 124; refine HH.out.mono ?_; rintro e w' ⟨rfl, rfl⟩) | (go_at_call 125; refine (HNE.out _).mono ?_; rintro e w' ⟨rfl, rfl⟩))
        go_roundw
        case rel => exact ⟨k + 1, by go_num, by omega, trivial⟩
        case measure => exact HM.out
      · exact absurd hmay hm
    · obtain rfl : k = n := by omega
      have hne : ¬ ((k : Int) < (k : Int)) := by omega
      clear hlt hk
      have R1 := H.out.below HK.out
      have HNU := hide (near_up ao k cap w.heap.size so t w1 R1 HF.out HNN.out HSM.out)
      have HR1 := hide R1
      clear R1
      go_wp2_with fail
      refine (all_any _ _ _ _).mono ?_
      rintro e w' ⟨rfl, rfl⟩
      go_wp2_with fail
      refine HNU.out.mono ?_
      rintro e w3 ⟨g3, rfl, hr3, hk3⟩
      have HND := hide (near_down ao k cap w.heap.size eo t w3 (HR1.out.below hk3) HF.out HNN.out (HSM.out.below hk3))
      have HR3 := hide hr3
      have HK3 := hide hk3
      clear hr3 hk3 HNU
      go_wp2_with fail
      refine (back_any _ _ _ _).mono ?_
      rintro e w' ⟨rfl, rfl⟩
      go_wp2_with fail
      refine HND.out.mono ?_
      rintro e w5 ⟨g5, rfl, hr5, hk5⟩
      have HK5 := hide (KO.on HK3.out hk5)
      have HR5 := hide (HR3.out.below hk5)
      have HB5 := hide hr5
      have HT5 := hide (HR1.out.below HK5.out)
      have HS5 := hide (HSM.out.below HK5.out)
      have HKW := hide (KO.on HK.out HK5.out)
      clear hr5 hk5 HND HR3 HK3 HR1 HSM HK
      have hmk := HMK.out w5
      have HO0 : Hid (OW w5.heap.size w5.heap.size k k (Ne.RL t lv so eo 0) w5 (w5.alloc (.cells cur 3))) := hide ⟨by
        rw [Ne.RL_zero, HLEN.out]
        exact owns_block (cur := cur) (World.alloc_heap_new w5 _) HCL.out (by simp) (by unfold maxLen; have := HNN.out; omega) (Nat.le_refl _), (Below.refl _ _).alloc (Nat.le_refl _) _⟩
      go_wp2
      go_loopw [67] (fun v wr => ∃ j : Nat, v = .int .i64 (j : Int) ∧ j ≤ k ∧ Hid (OW w5.heap.size w5.heap.size k k (Ne.RL t lv so eo j) w5 wr)) (fun v _ => k - (intOf v).toNat)
      case atStart => exact ⟨0, rfl, Nat.zero_le _, HO0⟩
      case round =>
        obtain ⟨j, rfl, hj, hW⟩ := hrel
        by_cases hlt : j < k
        · have HTr := hide (HT5.out.below hW.out.bel)
          obtain ⟨b, off, rfl, hbl, hc⟩ := HTr.out.cells (by omega)
          have ck := hc j (by rw [HLEN.out]; exact hlt)
          have cA := rowAt (w' := wr) HR5.out hW.out.bel j hlt
          have cB := rowAt (w' := wr) HB5.out hW.out.bel j hlt
          rw [Nat.zero_add] at cA cB
          rw [Ne.AH_at _ _ (by rw [HLEN.out]; exact hlt)] at cA
          rw [Ne.BH_at _ _ (by rw [HLEN.out]; exact hlt)] at cB
          have hin : (j : Int) < (k : Int) := by omega
          have HH := hide (has_any w.heap.size (t.getD j 0) (HF.out.at j) wr (HS5.out.below hW.out.bel))
          have HM := hide (meas_n0 k j hlt)
          have co := hW.out.cell hlt
          have fo := hW.out.own.frozenAt j
          have HN := hide (fun (nq : Nat) (y : Int) (hy : Ne.r1 t lv so eo j = y) => (show OW w5.heap.size w5.heap.size k k (Ne.RL t lv so eo (j + 1)) w5 ((wr.drewN nq).setCell ⟨w5.heap.size, j, none⟩ (.int .i64 y)) from by
            rw [← Ne.RL_succ, hy]; exact (hW.out.drewN nq).set j y))
          have HN0 := hide (fun (y : Int) (hy : Ne.r1 t lv so eo j = y) => (show OW w5.heap.size w5.heap.size k k (Ne.RL t lv so eo (j + 1)) w5 (wr.setCell ⟨w5.heap.size, j, none⟩ (.int .i64 y)) from by
            rw [← Ne.RL_succ, hy]; exact hW.out.set j y))
          generalize (Ne.RL t lv so eo j).getD j 0 = old at co
          clear hc hbl
          by_cases hs : Ne.sd (t.getD j 0) = 0
          · have hb : (Ne.sd (t.getD j 0) != 0) = false := by rw [hs]; rfl
            rw [hb] at HH
            clear hb
            have hr : Ne.r1 t lv so eo j = if Ne.ah t so (j + 1) = Ne.ah t.reverse eo (t.length - j) then Ne.ah t so (j + 1) else Ne.es lv := by
              unfold Ne.r1; rw [if_pos hs]
            clear hs HN0
            generalize t.getD j 0 = x at *
            generalize Ne.ah t so (j + 1) = u at *
            generalize Ne.ah t.reverse eo (t.length - j) = v at *
            by_cases huv : u = v
            · rw [if_pos huv] at hr
              have HNX := hide (fun nq => HN.out nq u hr)
              subst huv
              clear hr HN
              go_wp2_with (go_at_call 124; refine HH.out.mono ?_; rintro e w' ⟨rfl, rfl⟩)
              go_quiet (fail)
              go_wp2
              go_roundw
              case rel => exact ⟨j + 1, by go_num, by omega, hide (HNX.out _)⟩
              case measure => exact HM.out
            · rw [if_neg huv] at hr
              have HNX := hide (fun nq => HN.out nq _ hr)
              have he : (u == v) = false := beq_false_of_ne huv
              clear hr HN huv
              generalize Ne.es lv = y at *
              go_wp2_with (go_at_call 124; refine HH.out.mono ?_; rintro e w' ⟨rfl, rfl⟩)
              go_quiet (fail)
              go_wp2_with (go_at_call 129; refine (HLS.out _).mono ?_; rintro e w' ⟨rfl, rfl⟩)
              go_roundw
              case rel => exact ⟨j + 1, by go_num, by omega, hide (HNX.out _)⟩
              case measure => exact HM.out
          · have hb : (Ne.sd (t.getD j 0) != 0) = true := bne_iff_ne.2 hs
            rw [hb] at HH
            clear hb
            have HNX := hide (HN0.out _ (sd_row hs))
            clear hs HN HN0 cA cB
            generalize t.getD j 0 = x at *
            go_wp2_with (go_at_call 124; refine HH.out.mono ?_; rintro e w' ⟨rfl, rfl⟩)
            go_roundw
            case rel => exact ⟨j + 1, by go_num, by omega, HNX⟩
            case measure => exact HM.out
        · obtain rfl : j = k := by omega
          have hne : ¬ ((j : Int) < (j : Int)) := by omega
          have HWW := hide (show Row .i64 wr (some ⟨w5.heap.size, 0, none⟩) j j (Ne.RS t lv so eo) ∧ KO w wr from by
            have h2 := hW.out.row
            rw [← HLEN.out, Ne.RL_all, HLEN.out] at h2
            exact ⟨h2, KO.on HKW.out hW.out.bel⟩)
          clear hW hlt
          go_wp2
          go_ret2
          exact ⟨_, rfl, HWW.out.1, HWW.out.2⟩
end Go.Proofs.YtfadjgaledddjaaGreatDoor

/- Levels; works: the chapter's examples. -/
namespace Go.Proofs.YtfadjgaledddjaaGreatDoor
open Go.RowKit
set_option linter.unusedVariables false
set_option maxHeartbeats 1000000
set_option maxRecDepth 100000
theorem nlevels_bad (ao : Option Addr) (n cap : Nat) (lv : Int) (w : World) (hb : ¬ Ne.Lev lv) :
    Calls Tryz.prog 108 #[.slice ao n cap, .int .i64 lv] w fun e w' => e = .returned (.tuple #[.slice none 0 0, .int .i64 2]) ∧ w = w' := by
  have HL := hide (fun w' => isLevel_any lv w')
  rw [decide_eq_false hb] at HL
  clear hb
  go_enter Tryz.func108, Tryz.ntmps108
  go_wp2_with fail
  refine (HL.out _).mono ?_
  rintro e w' ⟨rfl, rfl⟩
  go_wp2
  go_ret2
  exact ⟨rfl, rfl⟩
/-- A slice of a call's own, if it is not empty. -/
def Fresh (w : World) (a1 : Option Addr) (m : Nat) : Prop := 0 < m → ∃ g, a1 = some ⟨g, 0, none⟩ ∧ w.heap.size ≤ g
theorem Fresh.nil (w : World) {a1 : Option Addr} : Fresh w a1 0 := fun h => absurd h (by decide)
theorem Fresh.some {w : World} {g : Nat} (h : w.heap.size ≤ g) (m : Nat) : Fresh w (some ⟨g, 0, none⟩) m := fun _ => ⟨g, rfl, h⟩
theorem nlevels_go (ao : Option Addr) (n cap : Nat) (lv : Int) (t : List Int) (w : World) (h : Row .i64 w ao n cap t) (hf : WF t) (hn : n * 8 ≤ 140737488351232) (hg : Ne.Lev lv) (L : List Int) (E : Int) (hA : (¬ Ne.Sided t ∧ L = [] ∧ E = 50) ∨ (Ne.Sided t ∧ L = Ne.LS t lv ∧ E = 0)) :
    Calls Tryz.prog 108 #[.slice ao n cap, .int .i64 lv] w fun e w' => ∃ a1 c1, e = .returned (.tuple #[.slice a1 L.length c1, .int .i64 E]) ∧ Row .i64 w' a1 L.length c1 L ∧ KO w w' ∧ Fresh w a1 L.length := by
  have HL := hide (fun w' => isLevel_any lv w')
  rw [decide_eq_true hg] at HL
  have hn2 : n ≤ 17592186044416 := by omega
  have HM := hide (nsides_any w)
  have H := hide h
  have HLEN := hide h.len
  have HF := hide hf
  have HNN := hide hn
  have HG := hide hg
  have HA := hide hA
  obtain ⟨cur, hcl, hmk⟩ := nmade_ints n hn
  have HCL := hide hcl
  have HMK := hide hmk
  clear hg h hn hf hcl hmk hA
  go_enter Tryz.func108, Tryz.ntmps108
  go_wp2_with fail
  refine (HL.out _).mono ?_
  rintro e w' ⟨rfl, rfl⟩
  go_wp2_with fail
  refine HM.out.mono ?_
  rintro e w1 ⟨rfl, hm, hk⟩
  have HSM := hide hm
  have HK := hide hk
  clear hm hk HM HL
  have hmk := HMK.out w1
  have HR1 := hide (H.out.below HK.out)
  have HO0 : Hid (OW w1.heap.size w1.heap.size n n (Ne.LL t lv 0) w1 (w1.alloc (.cells cur 3))) := hide ⟨by
    rw [Ne.LL_zero, HLEN.out]
    exact owns_block (cur := cur) (World.alloc_heap_new w1 _) HCL.out (by simp) (by unfold maxLen; have := HNN.out; omega) (Nat.le_refl _), (Below.refl _ _).alloc (Nat.le_refl _) _⟩
  go_wp2
  go_loopw [19] (fun v wr => ∃ j : Nat, v = .int .i64 (j : Int) ∧ j ≤ n ∧ Hid (∀ i, i < j → Ne.sd (t.getD i 0) ≠ 0) ∧ Hid (OW w1.heap.size w1.heap.size n n (Ne.LL t lv j) w1 wr)) (fun v _ => n - (intOf v).toNat)
  case atStart => exact ⟨0, rfl, Nat.zero_le _, hide (fun i hi => by omega), HO0⟩
  case round =>
    obtain ⟨j, rfl, hj, hall, hW⟩ := hrel
    by_cases hlt : j < n
    · have HTr := hide (HR1.out.below hW.out.bel)
      obtain ⟨b, off, rfl, hbl, hc⟩ := HTr.out.cells (by omega)
      have ck := hc j (by rw [HLEN.out]; exact hlt)
      have hin : (j : Int) < (n : Int) := by omega
      have HH := hide (has_any w.heap.size (t.getD j 0) (HF.out.at j) wr (HSM.out.below hW.out.bel))
      have HM := hide (meas_n0 n j hlt)
      have co := hW.out.cell hlt
      have fo := hW.out.own.frozenAt j
      generalize (Ne.LL t lv j).getD j 0 = old at co
      by_cases hs : Ne.sd (t.getD j 0) = 0
      · have hb : (Ne.sd (t.getD j 0) != 0) = false := by rw [hs]; rfl
        rw [hb] at HH
        have HE := hide (show L = [] ∧ E = 50 from by
          rcases HA.out with ⟨_, h1, h2⟩ | ⟨h1, _⟩
          · exact ⟨h1, h2⟩
          · exact absurd hs (h1 j (by rw [HLEN.out]; exact hlt)))
        have HKW := hide (KO.on HK.out hW.out.bel)
        clear hb hs hc hbl hall
        generalize t.getD j 0 = x at *
        go_wp2_with (go_at_call 124; refine HH.out.mono ?_; rintro e w' ⟨rfl, rfl⟩)
        obtain ⟨rfl, rfl⟩ := HE.out
        go_ret2
        exact ⟨none, 0, rfl, row_nil _ _, HKW.out, Fresh.nil _⟩
      · have hb : (Ne.sd (t.getD j 0) != 0) = true := bne_iff_ne.2 hs
        rw [hb] at HH
        have HA2 := hide (show ∀ i, i < j + 1 → Ne.sd (t.getD i 0) ≠ 0 from fun i hi => by
          by_cases e : i = j
          · subst e; exact hs
          · exact hall.out i (by omega))
        have HD := hide (fun w' => deeper_any (t.getD j 0) lv hs HG.out.1 w')
        have h2 := Ne.lv1_two (lv := lv) hs
        have hw : wrap64 (lv + Ne.dp (t.getD j 0) lv) = Ne.lv1 lv (t.getD j 0) := by
          have h1 := HG.out.1
          have h3 := HG.out.2
          unfold Ne.dp
          rw [show lv + (Ne.lv1 lv (t.getD j 0) - lv) = Ne.lv1 lv (t.getD j 0) by omega]
          exact w64_small (by omega) (by omega)
        have HN0 := hide (show OW w1.heap.size w1.heap.size n n (Ne.LL t lv (j + 1)) w1 (wr.setCell ⟨w1.heap.size, j, none⟩ (.int .i64 (Ne.lv1 lv (t.getD j 0)))) from by
            rw [← Ne.LL_succ]; exact hW.out.set j _)
        clear hb hs hc hbl hall h2
        generalize Ne.lv1 lv (t.getD j 0) = y at *
        generalize Ne.dp (t.getD j 0) lv = dd at *
        generalize t.getD j 0 = x at *
        go_wp2_with (first | (go_at_call 124; refine HH.out.mono ?_; rintro e w' ⟨rfl, rfl⟩) | (go_at_call 130; refine (HD.out _).mono ?_; rintro e w' ⟨rfl, rfl⟩))
        go_roundw
        case rel => exact ⟨j + 1, by go_num, by omega, HA2, HN0⟩
        case measure => exact HM.out
    · obtain rfl : j = n := by omega
      have hne : ¬ ((j : Int) < (j : Int)) := by omega
      have HE := hide (show L = Ne.LS t lv ∧ E = 0 from by
        rcases HA.out with ⟨h1, _⟩ | ⟨_, h1, h2⟩
        · exact absurd (fun i hi => hall.out i (by rw [HLEN.out] at hi; exact hi)) h1
        · exact ⟨h1, h2⟩)
      have HWW := hide (show Row .i64 wr (some ⟨w1.heap.size, 0, none⟩) j j (Ne.LS t lv) ∧ KO w wr ∧ (Ne.LS t lv).length = j ∧ w.heap.size ≤ w1.heap.size from by
        have h2 := hW.out.row
        rw [← HLEN.out, Ne.LL_all, HLEN.out] at h2
        exact ⟨h2, KO.on HK.out hW.out.bel, by rw [Ne.LS_len, HLEN.out], HK.out.size⟩)
      clear hW hlt hall
      go_wp2
      obtain ⟨rfl, rfl⟩ := HE.out
      go_ret2
      rw [HWW.out.2.2.1]
      exact ⟨_, j, rfl, HWW.out.1, HWW.out.2.1, Fresh.some HWW.out.2.2.2 _⟩
theorem nlevels_any (ao : Option Addr) (n cap : Nat) (lv : Int) (t : List Int) (w : World) (h : Row .i64 w ao n cap t) (hf : WF t) (hn : n * 8 ≤ 140737488351232) (L : List Int) (E : Int) (hA : Ne.AL t lv L E) :
    Calls Tryz.prog 108 #[.slice ao n cap, .int .i64 lv] w fun e w' => ∃ a1 c1, e = .returned (.tuple #[.slice a1 L.length c1, .int .i64 E]) ∧ Row .i64 w' a1 L.length c1 L ∧ KO w w' := by
  rcases hA with ⟨hg, rfl, rfl⟩ | ⟨hg, ho, rfl, rfl⟩ | ⟨hg, ho, rfl, rfl⟩
  · exact (nlevels_bad ao n cap lv w hg).mono fun e w' ⟨he, hk⟩ => ⟨none, 0, he, row_nil _ _, by rw [← hk]; exact KO.refl _⟩
  · exact (nlevels_go ao n cap lv t w h hf hn hg _ _ (.inl ⟨ho, rfl, rfl⟩)).mono fun e w' ⟨a, c, h1, h2, h3, _⟩ => ⟨a, c, h1, h2, h3⟩
  · exact (nlevels_go ao n cap lv t w h hf hn hg _ _ (.inr ⟨ho, rfl, rfl⟩)).mono fun e w' ⟨a, c, h1, h2, h3, _⟩ => ⟨a, c, h1, h2, h3⟩
theorem nresolve_any (ao : Option Addr) (n cap : Nat) (lv so eo : Int) (t : List Int) (w : World) (h : Row .i64 w ao n cap t) (hf : WF t) (hn : n * 8 ≤ 140737488351232) (L : List Int) (E : Int) (hA : Ne.AR t lv so eo L E) :
    Calls Tryz.prog 107 #[.slice ao n cap, .int .i64 lv, .int .i64 so, .int .i64 eo] w fun e w' => ∃ a1 c1, e = .returned (.tuple #[.slice a1 L.length c1, .int .i64 E]) ∧ Row .i64 w' a1 L.length c1 L ∧ KO w w' := by
  rcases hA with ⟨hg, rfl, rfl⟩ | ⟨hg, ho, rfl, rfl⟩ | ⟨hg, ho, rfl, rfl⟩
  · exact (nresolve_bad ao n cap lv so eo w hg).mono fun e w' ⟨he, hk⟩ => ⟨none, 0, he, row_nil _ _, by rw [← hk]; exact KO.refl _⟩
  · exact (nresolve_form ao n cap lv so eo t w h hf hn hg ho).mono fun e w' ⟨he, hk⟩ => ⟨none, 0, he, row_nil _ _, hk⟩
  · refine (nresolve_ok ao n cap lv so eo t w h hf hn hg ho).mono fun e w' ⟨g, he, hr, hk⟩ => ?_
    rw [Ne.RS_len, h.len]
    exact ⟨_, _, he, hr, hk⟩
theorem ex11a : Ne.AR [2, 13, 1] 1 1 1 [2, 2, 1] 0 := .inr (.inr ⟨⟨by decide, by decide, .inl rfl, .inl rfl⟩, Ne.ok_all (by decide), by decide, rfl⟩)
theorem ex11b : Ne.AL [1, 2, 4, 7] 0 [0, 1, 2, 2] 0 := .inr (.inr ⟨⟨by decide, by decide⟩, Ne.sided_all (by decide), by decide, rfl⟩)
end Go.Proofs.YtfadjgaledddjaaGreatDoor
