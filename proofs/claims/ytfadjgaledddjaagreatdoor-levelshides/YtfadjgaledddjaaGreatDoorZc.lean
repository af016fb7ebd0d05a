import Derived.Test.YtfadjgaledddjaaGreatDoorZb
import Derived.Laws.Tables
import Derived.DeepKeys
import Derived.Deep.WholeRow
import Derived.Great.BuildSlice
import Derived.Deep.RegionHeld3
import Derived.Deep.RegionHeldLaw
import Derived.Deep.RegionLaw
import Derived.Deep.LoopGhost
import Derived.Deep.Cut
import Derived.Deep.CutRange
/- Explicit levels: plain mathematics. No Go in sight. -/
namespace Go.Proofs.YtfadjgaledddjaaGreatDoor.Ex
set_option linter.unusedVariables false
/-- An entry: its level, its override (0 none, 1 L, 2 R), whether it is an isolate's. -/
structure Ent where
  lv : Int
  ov : Int
  is : Bool
/-- What is kept on the way: the entries, the last one first; how many isolates and embeddings overflow, how many isolates are valid. -/
structure St where
  st : List Ent
  oi : Nat
  oe : Nat
  va : Nat
def bot (b : Int) : Ent := ⟨b, 0, false⟩
def hd : List Ent → Ent
  | [] => ⟨0, 0, false⟩
  | e :: _ => e
def s0 (b : Int) : St := ⟨[bot b], 0, 0, 0⟩
/-- The next level. -/
def nl (l : Int) (o : Bool) : Int := if (l + 1) % 2 = (if o then 1 else 0) then l + 1 else l + 2
theorem nl_gt (l : Int) (o : Bool) : l < nl l o ∧ nl l o ≤ l + 2 := by unfold nl; split <;> omega
def can (s : St) (o : Bool) : Bool := decide (nl (hd s.st).lv o ≤ 125) && (s.oi == 0 && s.oe == 0)
theorem can_true {s : St} {o : Bool} (h : can s o = true) : nl (hd s.st).lv o ≤ 125 ∧ s.oi = 0 ∧ s.oe = 0 := by
  unfold can at h
  simp only [Bool.and_eq_true, decide_eq_true_eq, beq_iff_eq] at h
  exact ⟨h.1, h.2.1, h.2.2⟩
theorem can_mk {s : St} {o : Bool} (h1 : nl (hd s.st).lv o ≤ 125) (h2 : s.oi = 0) (h3 : s.oe = 0) : can s o = true := by
  unfold can
  simp only [Bool.and_eq_true, decide_eq_true_eq, beq_iff_eq]
  exact ⟨h1, h2, h3⟩
theorem can_oi {s : St} {o : Bool} (h : 0 < s.oi) : can s o = false := by
  cases hc : can s o with
  | false => rfl
  | true => have := (can_true hc).2.1; omega
theorem can_oe {s : St} {o : Bool} (h : 0 < s.oe) : can s o = false := by
  cases hc : can s o with
  | false => rfl
  | true => have := (can_true hc).2.2; omega
theorem can_lv {s : St} {o : Bool} (h : 125 < nl (hd s.st).lv o) : can s o = false := by
  cases hc : can s o with
  | false => rfl
  | true => have := (can_true hc).1; omega
/-- RLE, LRE, RLO, LRO. -/
def em (x : Int) : Bool := x == 17 || x == 15 || x == 18 || x == 16
/-- What is removed. -/
def rm (x : Int) : Bool := x == 17 || x == 15 || x == 18 || x == 16 || x == 19 || x == 10
def ovr (x : Int) : Int := if x = 16 then 1 else if x = 18 then 2 else 0
def odd (x : Int) : Bool := x == 17 || x == 18 || x == 21
def emb (s : St) (x : Int) : St := if can s (odd x) then ⟨⟨nl (hd s.st).lv (odd x), ovr x, false⟩ :: s.st, s.oi, s.oe, s.va⟩ else if s.oi = 0 then ⟨s.st, s.oi, s.oe + 1, s.va⟩ else s
def iso (s : St) (o : Bool) : St := if can s o then ⟨⟨nl (hd s.st).lv o, 0, true⟩ :: s.st, s.oi, s.oe, s.va + 1⟩ else ⟨s.st, s.oi + 1, s.oe, s.va⟩
/-- Up to the last entry of an isolate, it too. -/
def pi : List Ent → List Ent
  | [] => []
  | e :: r => if e.is then r else pi r
def pdi (s : St) : St := if 0 < s.oi then ⟨s.st, s.oi - 1, s.oe, s.va⟩ else if s.va = 0 then s else ⟨pi s.st, s.oi, 0, s.va - 1⟩
def pdf (s : St) : St := if 0 < s.oi then s else if 0 < s.oe then ⟨s.st, s.oi, s.oe - 1, s.va⟩ else if (hd s.st).is = false ∧ 1 < s.st.length then ⟨s.st.tail, s.oi, s.oe, s.va⟩ else s
/-- The direction of what lies in an FSI's isolate: by what stands behind it. -/
def fs : Nat → List Int → Int
  | _, [] => 0
  | o, x :: r => if o = 0 ∧ x = 1 then 0 else if o = 0 ∧ (x = 2 ∨ x = 3) then 1 else if o = 0 ∧ x = 23 then 0 else fs (Iso.nx o x) r
theorem fs_cons (o : Nat) (x : Int) (r : List Int) : fs o (x :: r) = if o = 0 ∧ x = 1 then 0 else if o = 0 ∧ (x = 2 ∨ x = 3) then 1 else if o = 0 ∧ x = 23 then 0 else fs (Iso.nx o x) r := rfl
theorem fs_bso (l : List Int) : ∀ o, Iso.bso o (l.take (Iso.ptl o l)) = fs o l := by
  induction l with
  | nil => intro o; rfl
  | cons x r ih =>
    intro o
    have key : ∀ q, Iso.bso o ((x :: r).take (q + 1)) = if o = 0 ∧ x = 1 then 0 else if o = 0 ∧ (x = 2 ∨ x = 3) then 1 else Iso.bso (Iso.nx o x) (r.take q) := fun q => rfl
    rw [Iso.ptl_cons, fs_cons]
    by_cases hs : Iso.st x = true
    · rw [if_pos hs, key]
      have hx : ¬ (o = 0 ∧ x = 23) := fun h => Iso.st_23 hs h.2
      rw [if_neg hx, show Iso.nx o x = o + 1 from by unfold Iso.nx; rw [if_pos hs], ih]
    · rw [if_neg hs]
      by_cases h2 : x = 23
      · rw [if_pos h2]
        have hn : Iso.nx o x = o - 1 := by unfold Iso.nx; rw [if_neg hs, if_pos h2]
        by_cases ho : o = 0
        · rw [if_pos ho, if_neg (by omega), if_neg (by omega), if_pos ⟨ho, h2⟩]
          rfl
        · rw [if_neg ho, key, if_neg (fun h => ho h.1), if_neg (fun h => ho h.1), if_neg (fun h => ho h.1), if_neg (fun h => ho h.1), if_neg (fun h => ho h.1), hn, ih]
      · rw [if_neg h2, key]
        have hx : ¬ (o = 0 ∧ x = 23) := fun h => h2 h.2
        rw [if_neg hx, show Iso.nx o x = o from by unfold Iso.nx; rw [if_neg hs, if_neg h2], ih]
/-- Base of what lies in an isolate. -/
theorem base_fs (c : List Int) (i : Nat) : Iso.bso 0 ((c.take (Iso.partner c i)).drop (i + 1)) = fs 0 (c.drop (i + 1)) := by
  rw [← fs_bso (c.drop (i + 1)) 0, List.drop_take]
  unfold Iso.partner
  rw [show i + 1 + Iso.ptl 0 (c.drop (i + 1)) - (i + 1) = Iso.ptl 0 (c.drop (i + 1)) from by omega]
/-- Does an initiator go to odd levels? -/
def wo (x : Int) (r : List Int) : Bool := if x = 22 then fs 0 r == 1 else x == 21
/-- Behind embeddings, overrides and ends. -/
def mid (s : St) (x : Int) : St := if em x then emb s x else if x = 19 then pdf s else if x = 23 then pdi s else s
def step (s : St) (x : Int) (r : List Int) : St := if Iso.st x then iso s (wo x r) else mid s x
def at' (s : St) (c : List Int) : Nat → St
  | 0 => s
  | k + 1 => step (at' s c k) (c.getD k 0) (c.drop (k + 1))
theorem at_succ (s : St) (c : List Int) (k : Nat) : at' s c (k + 1) = step (at' s c k) (c.getD k 0) (c.drop (k + 1)) := rfl
def tl (b : Int) (s : St) (x : Int) : Int := if rm x then -1 else if x = 11 then b else (hd s.st).lv
def ty (s : St) (x : Int) : Int := if rm x then x else if x = 11 then x else if (hd s.st).ov = 0 then x else (hd s.st).ov
/-- The level and the type of a place. -/
def lev (b : Int) (s : St) (c : List Int) (k : Nat) : Int := tl b (mid (at' s c k) (c.getD k 0)) (c.getD k 0)
def typ (s : St) (c : List Int) (k : Nat) : Int := ty (mid (at' s c k) (c.getD k 0)) (c.getD k 0)
def LV (b : Int) (c : List Int) : List Int := (List.range c.length).map (lev b (s0 b) c)
def TY (b : Int) (c : List Int) : List Int := (List.range c.length).map (typ (s0 b) c)
theorem LV_len (b : Int) (c : List Int) : (LV b c).length = c.length := by simp [LV]
theorem TY_len (b : Int) (c : List Int) : (TY b c).length = c.length := by simp [TY]
theorem LV_at (b : Int) (c : List Int) (k : Nat) (h : k < c.length) : (LV b c).getD k 0 = lev b (s0 b) c k := by simp [LV, List.getD, h]
theorem TY_at (b : Int) (c : List Int) (k : Nat) (h : k < c.length) : (TY b c).getD k 0 = typ (s0 b) c k := by simp [TY, List.getD, h]
/-- What has been laid behind k rounds. -/
def PL (f : Nat → Int) (n k : Nat) : List Int := (List.range n).map fun j => if j < k then f j else 0
theorem PL_len (f : Nat → Int) (n k : Nat) : (PL f n k).length = n := by simp [PL]
theorem PL_zero (f : Nat → Int) (n : Nat) : PL f n 0 = List.replicate n 0 := by
  apply List.ext_getElem
  · simp [PL]
  · intro j h1 h2; simp [PL]
theorem PL_end (f : Nat → Int) (n : Nat) : PL f n n = (List.range n).map f := by
  apply List.ext_getElem
  · simp [PL]
  · intro j h1 h2
    have hj : j < n := by rw [PL_len] at h1; exact h1
    simp only [PL, List.getElem_map, List.getElem_range, if_pos hj]
theorem PL_set (f : Nat → Int) (n k : Nat) : PL f n (k + 1) = (PL f n k).set k (f k) := by
  apply List.ext_getElem
  · simp [PL]
  · intro j h1 h2
    rw [List.getElem_set]
    simp only [PL, List.getElem_map, List.getElem_range]
    by_cases hj : k = j
    · subst hj
      rw [if_pos (by omega), if_pos rfl]
    · rw [if_neg hj]
      by_cases h3 : j < k
      · rw [if_pos (by omega), if_pos h3]
      · rw [if_neg (by omega), if_neg h3]
/-- Entries as they can be: levels rise from the base on. -/
inductive Chain (b : Int) : List Ent → Prop
  | one : Chain b [bot b]
  | cons (e : Ent) (r : List Ent) : Chain b r → (hd r).lv < e.lv → e.lv ≤ 125 → 0 ≤ e.ov → e.ov ≤ 2 → Chain b (e :: r)
def cn : List Ent → Nat
  | [] => 0
  | e :: r => (if e.is then 1 else 0) + cn r
theorem Chain.pos {b : Int} {l : List Ent} (h : Chain b l) : 0 < l.length := by cases h <;> simp
theorem Chain.lo {b : Int} {l : List Ent} (h : Chain b l) : b ≤ (hd l).lv := by
  induction h with
  | one => exact Int.le_refl _
  | cons e r _ h1 _ _ _ ih => simp only [hd]; omega
theorem Chain.hi {b : Int} {l : List Ent} (h : Chain b l) (hb : b ≤ 125) : (hd l).lv ≤ 125 := by
  cases h with
  | one => exact hb
  | cons e r _ _ h2 _ _ => exact h2
theorem Chain.ov {b : Int} {l : List Ent} (h : Chain b l) : 0 ≤ (hd l).ov ∧ (hd l).ov ≤ 2 := by
  cases h with
  | one => simp [hd, bot]
  | cons e r _ _ _ h3 h4 => exact ⟨h3, h4⟩
theorem Chain.len {b : Int} {l : List Ent} (h : Chain b l) : (l.length : Int) ≤ (hd l).lv - b + 1 := by
  induction h with
  | one => simp [hd, bot]
  | cons e r _ h1 _ _ _ ih => simp only [hd, List.length_cons] at *; omega
theorem Chain.last {b : Int} {l : List Ent} (h : Chain b l) : ∃ r, l = r ++ [bot b] := by
  induction h with
  | one => exact ⟨[], rfl⟩
  | cons e r _ _ _ _ _ ih => obtain ⟨q, rfl⟩ := ih; exact ⟨e :: q, rfl⟩
theorem Chain.more {b : Int} {l : List Ent} (h : Chain b l) (h1 : 1 < l.length) : b < (hd l).lv ∧ Chain b l.tail := by
  cases h with
  | one => simp at h1
  | cons e r hr h2 _ _ _ => have := hr.lo; exact ⟨by simp only [hd]; omega, hr⟩
theorem Chain.only {b : Int} {l : List Ent} (h : Chain b l) (h1 : ¬ 1 < l.length) : l = [bot b] := by
  cases h with
  | one => rfl
  | cons e r hr _ _ _ _ => have := hr.pos; simp only [List.length_cons] at h1; omega
theorem Chain.pi {b : Int} {l : List Ent} (h : Chain b l) (h1 : 0 < cn l) : Chain b (pi l) ∧ cn (Ex.pi l) + 1 = cn l := by
  induction h with
  | one => simp [cn, bot] at h1
  | cons e r hr _ _ _ _ ih =>
    cases he : e.is with
    | true => simp only [Ex.pi, cn, he, if_true]; exact ⟨hr, by omega⟩
    | false =>
      simp only [cn, he] at h1
      have := ih (by simpa using h1)
      simp only [Ex.pi, cn, he]
      simpa using this
theorem cn_le (l : List Ent) : cn l ≤ l.length := by
  induction l with
  | nil => exact Nat.le_refl _
  | cons e r ih => simp only [cn, List.length_cons]; split <;> omega
structure Ok (b : Int) (s : St) (k : Nat) : Prop where
  ch : Chain b s.st
  va : s.va = cn s.st
  oi : s.oi ≤ k
  oe : s.oe ≤ k
theorem Ok.s0 (b : Int) : Ok b (s0 b) 0 := ⟨.one, by simp [Ex.s0, cn, bot], Nat.le_refl _, Nat.le_refl _⟩
theorem Ok.mono {b : Int} {s : St} {k m : Nat} (h : Ok b s k) (hk : k ≤ m) : Ok b s m := ⟨h.ch, h.va, Nat.le_trans h.oi hk, Nat.le_trans h.oe hk⟩
theorem ovr_range (x : Int) : 0 ≤ ovr x ∧ ovr x ≤ 2 := by unfold ovr; split <;> (try split) <;> decide
theorem Ok.emb {b : Int} {s : St} {k : Nat} (h : Ok b s k) (x : Int) : Ok b (emb s x) (k + 1) := by
  have ho := ovr_range x
  have hn := nl_gt (hd s.st).lv (odd x)
  have h1 := h.oi
  have h2 := h.oe
  unfold Ex.emb
  split
  · rename_i hc
    exact ⟨.cons _ _ h.ch hn.1 (can_true hc).1 ho.1 ho.2, by simp [cn, h.va], by simp only; omega, by simp only; omega⟩
  · split
    · exact ⟨h.ch, h.va, by simp only; omega, by simp only; omega⟩
    · exact h.mono (by omega)
theorem Ok.iso {b : Int} {s : St} {k : Nat} (h : Ok b s k) (o : Bool) : Ok b (iso s o) (k + 1) := by
  have hn := nl_gt (hd s.st).lv o
  have h1 := h.oi
  have h2 := h.oe
  unfold Ex.iso
  split
  · rename_i hc
    exact ⟨.cons _ _ h.ch hn.1 (can_true hc).1 (by simp) (by simp), by simp [cn, h.va, Nat.add_comm], by simp only; omega, by simp only; omega⟩
  · exact ⟨h.ch, h.va, by simp only; omega, by simp only; omega⟩
theorem Ok.pdi {b : Int} {s : St} {k : Nat} (h : Ok b s k) : Ok b (pdi s) k := by
  have h1 := h.oi
  have h2 := h.oe
  unfold Ex.pdi
  split
  · exact ⟨h.ch, h.va, by simp only; omega, by simp only; omega⟩
  · split
    · exact h
    · rename_i hv
      have := h.ch.pi (by have := h.va; omega)
      exact ⟨this.1, by have h3 := h.va; have h4 := this.2; simp only; omega, by simp only; omega, by simp only; omega⟩
theorem cn_tail {l : List Ent} (h : (hd l).is = false) : cn l.tail = cn l := by
  cases l with
  | nil => rfl
  | cons e r => simp only [hd] at h; simp [cn, h]
theorem Ok.pdf {b : Int} {s : St} {k : Nat} (h : Ok b s k) : Ok b (pdf s) k := by
  have h1 := h.oi
  have h2 := h.oe
  unfold Ex.pdf
  split
  · exact h
  · split
    · exact ⟨h.ch, h.va, by simp only; omega, by simp only; omega⟩
    · split
      · rename_i hc
        exact ⟨(h.ch.more hc.2).2, by simp only [cn_tail hc.1]; exact h.va, h1, h2⟩
      · exact h
theorem Ok.mid {b : Int} {s : St} {k : Nat} (h : Ok b s k) (x : Int) : Ok b (mid s x) (k + 1) := by
  unfold Ex.mid
  split
  · exact h.emb x
  · split
    · exact h.pdf.mono (by omega)
    · split
      · exact h.pdi.mono (by omega)
      · exact h.mono (by omega)
theorem Ok.step {b : Int} {s : St} {k : Nat} (h : Ok b s k) (x : Int) (r : List Int) : Ok b (step s x r) (k + 1) := by
  unfold Ex.step
  split
  · exact h.iso _
  · exact h.mid x
theorem Ok.at {b : Int} (c : List Int) : ∀ k, Ok b (at' (Ex.s0 b) c k) k := by
  intro k
  induction k with
  | zero => exact Ok.s0 b
  | succ k ih => exact ih.step _ _
/-- A paragraph's classes. -/
def Formed (c : List Int) : Prop := ∀ i, i < c.length → 1 ≤ c.getD i 0 ∧ c.getD i 0 ≤ 23 ∧ (c.getD i 0 = 11 → i + 1 = c.length)
theorem mid_st {s : St} {x : Int} (h : Iso.st x = true) : mid s x = s := by
  have : em x = false ∧ ¬ x = 19 ∧ ¬ x = 23 := by
    unfold Iso.st at h
    simp only [Bool.or_eq_true, beq_iff_eq] at h
    rcases h with (rfl | rfl) | rfl <;> decide
  unfold mid
  rw [this.1, if_neg (by decide), if_neg this.2.1, if_neg this.2.2]
theorem step_em (s : St) (x : Int) (r : List Int) (h : em x = true) : step s x r = emb s x := by
  have hs : Iso.st x = false := by
    unfold em at h
    simp only [Bool.or_eq_true, beq_iff_eq] at h
    rcases h with ((rfl | rfl) | rfl) | rfl <;> decide
  unfold step mid
  rw [hs, h]; rfl
theorem step_pdf (s : St) (r : List Int) : step s 19 r = pdf s := rfl
theorem step_pdi (s : St) (r : List Int) : step s 23 r = pdi s := rfl
end Go.Proofs.YtfadjgaledddjaaGreatDoor.Ex

/- The stack of explicit levels, as it lies in memory; its small methods. -/
namespace Go.Proofs.YtfadjgaledddjaaGreatDoor
open Go.RowKit
set_option linter.unusedVariables false
set_option maxHeartbeats 1000000
set_option maxRecDepth 100000
/-- The cells of an entry. -/
def ec (e : Ex.Ent) : List Value := [.int .i64 e.lv, .int .i64 e.ov, .bool e.is]
def ents (l : List Ex.Ent) : List Value := l.reverse.flatMap ec
theorem ents_cons (e : Ex.Ent) (l : List Ex.Ent) : ents (e :: l) = ents l ++ ec e := by simp [ents, List.flatMap_append]
theorem ents_len (l : List Ex.Ent) : (ents l).length = l.length * 3 := by
  induction l with
  | nil => rfl
  | cons e r ih => rw [ents_cons, List.length_append, ih, List.length_cons]; simp only [ec, List.length_cons, List.length_nil]; omega
theorem ents_one (l : List Ex.Ent) : ∀ u ∈ ents l, u.oneCell' = true := by
  intro u hu
  simp only [ents, List.mem_flatMap] at hu
  obtain ⟨e, _, he⟩ := hu
  simp only [ec, List.mem_cons, List.not_mem_nil, or_false] at he
  rcases he with rfl | rfl | rfl <;> simp [Value.oneCell']
theorem ents_top (e : Ex.Ent) (l : List Ex.Ent) : (ents (e :: l))[l.length * 3]? = some (.int .i64 e.lv) ∧ (ents (e :: l))[l.length * 3 + 1]? = some (.int .i64 e.ov) ∧ (ents (e :: l))[l.length * 3 + 2]? = some (.bool e.is) := by
  rw [ents_cons, ← ents_len l]
  refine ⟨?_, ?_, ?_⟩
  · rw [List.getElem?_append_right (Nat.le_refl _), Nat.sub_self]; rfl
  · rw [List.getElem?_append_right (by omega), show (ents l).length + 1 - (ents l).length = 1 from by omega]; rfl
  · rw [List.getElem?_append_right (by omega), show (ents l).length + 2 - (ents l).length = 2 from by omega]; rfl
theorem ents_bot {b : Int} {l : List Ex.Ent} (h : Ex.Chain b l) : (ents l)[0]? = some (.int .i64 b) ∧ (ents l)[1]? = some (.int .i64 0) ∧ (ents l)[2]? = some (.bool false) := by
  obtain ⟨r, rfl⟩ := h.last
  have e : ents (r ++ [Ex.bot b]) = ec (Ex.bot b) ++ ents r := by simp [ents, List.reverse_append]
  rw [e]
  exact ⟨rfl, rfl, rfl⟩
/-- The stack lies at block p, its entries from block g on; all from block B on. -/
structure SA (B : Nat) (w : World) (p : Nat) (S : Ex.St) (g cap : Nat) : Prop where
  ge : B ≤ p
  blk : w.heap[p]? = some (.cells #[.slice (some ⟨g, 0, none⟩) S.st.length cap, .int .i64 (S.oi : Int), .int .i64 (S.oe : Int), .int .i64 (S.va : Int)] 101 (0, 0))
  own : w.ownsRow B 98 3 (.slice (some ⟨g, 0, none⟩) S.st.length cap) S.st.length (ents S.st)
  ne : ¬ g = p
section
variable {B : Nat} {w : World} {p : Nat} {S : Ex.St} {g cap : Nat}
theorem SA.lt (h : SA B w p S g cap) : p < w.heap.size ∧ g < w.heap.size ∧ B ≤ g := ⟨(Array.getElem?_eq_some_iff.1 h.blk).1, (h.own.lt g rfl).2, (h.own.lt g rfl).1⟩
theorem SA.size (h : SA B w p S g cap) : B ≤ w.heap.size := by have h1 := h.lt.1; have h2 := h.ge; omega
theorem SA.caps (h : SA B w p S g cap) : S.st.length ≤ cap ∧ cap ≤ maxLen := by
  rcases h.own.2 with ⟨h0, _⟩ | ⟨g', cap', cur, hv, _, _, h1, h2, _⟩
  · cases h0
  · cases hv; exact ⟨h1, h2⟩
theorem SA.c0 (h : SA B w p S g cap) : w.cell? ⟨p, 0, none⟩ = some (.slice (some ⟨g, 0, none⟩) S.st.length cap) := by simp [World.cell?, h.blk]
theorem SA.c1 (h : SA B w p S g cap) : w.cell? ⟨p, 1, none⟩ = some (.int .i64 (S.oi : Int)) := by simp [World.cell?, h.blk]
theorem SA.c2 (h : SA B w p S g cap) : w.cell? ⟨p, 2, none⟩ = some (.int .i64 (S.oe : Int)) := by simp [World.cell?, h.blk]
theorem SA.c3 (h : SA B w p S g cap) : w.cell? ⟨p, 3, none⟩ = some (.int .i64 (S.va : Int)) := by simp [World.cell?, h.blk]
theorem SA.fz (h : SA B w p S g cap) (j : Nat) : w.frozen? ⟨p, j, none⟩ = false := by simp [World.frozen?, h.blk]
theorem SA.below (h : SA B w p S g cap) {w' : World} (hb : Below w.heap.size w w') : SA B w' p S g cap := ⟨h.ge, (hb.block p h.lt.1).trans h.blk, owns_below h.own hb, h.ne⟩
theorem SA.drew (h : SA B w p S g cap) : SA B w.drew p S g cap := h.below (Below.drew (Below.refl _ _))
theorem SA.top (h : SA B w p S g cap) {m : Nat} (hm : S.st.length = m + 1) : w.cell? ⟨g, m * 3, none⟩ = some (.int .i64 (Ex.hd S.st).lv) ∧ w.cell? ⟨g, m * 3 + 1, none⟩ = some (.int .i64 (Ex.hd S.st).ov) ∧ w.cell? ⟨g, m * 3 + 2, none⟩ = some (.bool (Ex.hd S.st).is) := by
  have ho := h.own
  cases hs : S.st with
  | nil => rw [hs] at hm; simp at hm
  | cons e r =>
    rw [hs] at ho hm
    have hr : r.length = m := by simpa using hm
    have ht := ents_top e r
    rw [hr] at ht
    have hl := ho.1
    rw [List.length_cons, hr] at hl
    exact ⟨(ho.cellAt _ (by rw [List.length_cons]; omega)).trans ht.1, (ho.cellAt _ (by rw [List.length_cons]; omega)).trans ht.2.1, (ho.cellAt _ (by rw [List.length_cons]; omega)).trans ht.2.2⟩
theorem SA.bot (h : SA B w p S g cap) {b : Int} (hc : Ex.Chain b S.st) : w.cell? ⟨g, 0, none⟩ = some (.int .i64 b) ∧ w.cell? ⟨g, 1, none⟩ = some (.int .i64 0) ∧ w.cell? ⟨g, 2, none⟩ = some (.bool false) := by
  have ht := ents_bot hc
  have hp := hc.pos
  exact ⟨(h.own.cellAt 0 (by omega)).trans ht.1, (h.own.cellAt 1 (by omega)).trans ht.2.1, (h.own.cellAt 2 (by omega)).trans ht.2.2⟩
theorem SA.blkSet (h : SA B w p S g cap) (j : Nat) (v : Value) : (w.setCell ⟨p, j, none⟩ v).heap[p]? = some (.cells ((#[.slice (some ⟨g, 0, none⟩) S.st.length cap, .int .i64 (S.oi : Int), .int .i64 (S.oe : Int), .int .i64 (S.va : Int)] : Array Value).setIfInBounds j v) 101 (0, 0)) := by
  rw [setCell_eq_setRow w p j _ _ _ v h.blk]
  exact setRow_heap w p _ _ _ _ h.blk
theorem SA.ownSet (h : SA B w p S g cap) (j : Nat) (v : Value) : (w.setCell ⟨p, j, none⟩ v).ownsRow B 98 3 (.slice (some ⟨g, 0, none⟩) S.st.length cap) S.st.length (ents S.st) := by
  have ho := h.own
  refine ⟨ho.1, ?_⟩
  rcases ho.2 with ⟨h0, _⟩ | ⟨g', cap', cur, hv, hbs, hg, rest⟩
  · cases h0
  · cases hv
    refine .inr ⟨g, cap, cur, rfl, hbs, ?_, rest⟩
    rw [setCell_eq_setRow w p j _ _ _ v h.blk, setRow_other _ _ _ _ h.ne]
    exact hg
theorem SA.setOi (h : SA B w p S g cap) {z : Int} {k : Nat} (hz : z = (k : Int)) : SA B (w.setCell ⟨p, 1, none⟩ (.int .i64 z)) p ⟨S.st, k, S.oe, S.va⟩ g cap := by
  subst hz; exact ⟨h.ge, h.blkSet 1 _, h.ownSet 1 _, h.ne⟩
theorem SA.setOe (h : SA B w p S g cap) {z : Int} {k : Nat} (hz : z = (k : Int)) : SA B (w.setCell ⟨p, 2, none⟩ (.int .i64 z)) p ⟨S.st, S.oi, k, S.va⟩ g cap := by
  subst hz; exact ⟨h.ge, h.blkSet 2 _, h.ownSet 2 _, h.ne⟩
theorem SA.setVa (h : SA B w p S g cap) {z : Int} {k : Nat} (hz : z = (k : Int)) : SA B (w.setCell ⟨p, 3, none⟩ (.int .i64 z)) p ⟨S.st, S.oi, S.oe, k⟩ g cap := by
  subst hz; exact ⟨h.ge, h.blkSet 3 _, h.ownSet 3 _, h.ne⟩
theorem SA.pop (h : SA B w p S g cap) {m : Nat} (hm : S.st.length = m + 1) : SA B (w.setCell ⟨p, 0, none⟩ (.slice (some ⟨g, 0, none⟩) m cap)) p ⟨S.st.tail, S.oi, S.oe, S.va⟩ g cap := by
  have hb := h.blkSet 0 (.slice (some ⟨g, 0, none⟩) m cap)
  have ho := h.ownSet 0 (.slice (some ⟨g, 0, none⟩) m cap)
  cases hs : S.st with
  | nil => rw [hs] at hm; simp at hm
  | cons e r =>
    rw [hs] at hm ho hb
    have hr : r.length = m := by simpa using hm
    subst hr
    rw [ents_cons, List.length_cons] at ho
    exact ⟨h.ge, hb, ownsRow_pop (ents_len r) ho, h.ne⟩
/-- Behind an append. -/
theorem SA.push (h : SA B w p S g cap) {e : Ex.Ent} {o : Obj} {v' : Value} {w' : World} (ho : w'.ownsRow B 98 3 v' (S.st.length + 1) (ents S.st ++ ec e)) (hg : (w.alloc o).grownBy w' (some g)) :
    ∃ g' cap', v' = .slice (some ⟨g', 0, none⟩) (S.st.length + 1) cap' ∧ SA B (w'.setCell ⟨p, 0, none⟩ v') p ⟨e :: S.st, S.oi, S.oe, S.va⟩ g' cap' := by
  obtain ⟨g', cap', rfl, hb, hle⟩ := owns_pos ho (by omega)
  refine ⟨g', cap', rfl, ?_⟩
  have hp : w'.heap[p]? = some (.cells #[.slice (some ⟨g, 0, none⟩) S.st.length cap, .int .i64 (S.oi : Int), .int .i64 (S.oe : Int), .int .i64 (S.va : Int)] 101 (0, 0)) := by
    rw [hg.block p (by simp; have := h.lt.1; omega) (fun h0 => h.ne (by simpa using h0.symm))]
    rw [← h.blk]
    exact (Below.alloc (Below.refl w.heap.size w) (Nat.le_refl _) o).block p h.lt.1
  have hne : ¬ g' = p := by
    rintro rfl
    rcases ho.2 with ⟨h0, _⟩ | ⟨g2, cap2, cur, hv2, hbs, hg2, rest⟩
    · cases h0
    · cases hv2
      rw [hp] at hg2
      simp at hg2
  refine ⟨h.ge, ?_, ?_, hne⟩
  · rw [setCell_eq_setRow w' p 0 _ _ _ _ hp]
    exact setRow_heap w' p _ _ _ _ hp
  · rw [← ents_cons] at ho
    refine ⟨ho.1, ?_⟩
    rcases ho.2 with ⟨h0, _⟩ | ⟨g2, cap2, cur, hv2, hbs, hg2, rest⟩
    · cases h0
    · cases hv2
      refine .inr ⟨g', cap', cur, rfl, hbs, ?_, rest⟩
      rw [setCell_eq_setRow w' p 0 _ _ _ _ hp, setRow_other _ _ _ _ hne]
      exact hg2
theorem SA.grown (h : SA B w p S g cap) {o : Obj} {w' : World} (hg : (w.alloc o).grownBy w' (some g)) : w'.cell? ⟨p, 0, none⟩ = some (.slice (some ⟨g, 0, none⟩) S.st.length cap) ∧ w'.frozen? ⟨p, 0, none⟩ = false := by
  have hp : w'.heap[p]? = w.heap[p]? := by
    rw [hg.block p (by simp; have := h.lt.1; omega) (fun h0 => h.ne (by simpa using h0.symm))]
    exact (Below.alloc (Below.refl w.heap.size w) (Nat.le_refl _) o).block p h.lt.1
  exact ⟨by simp [World.cell?, hp, h.blk], by simp [World.frozen?, hp, h.blk]⟩
theorem SA.setLow (h : SA B w p S g cap) {a : Addr} (ha : a.block < B) (v : Value) : SA B (w.setCell a v) p S g cap := by
  refine ⟨h.ge, ?_, ownsRow_setCell_below h.own ha v, h.ne⟩
  rw [← h.blk]
  have hne : ¬ a.block = p := by have := h.ge; omega
  unfold World.setCell
  simp [Array.getElem?_modify, hne]
end
end Go.Proofs.YtfadjgaledddjaaGreatDoor

/- The stack's small methods: last, overflows, drop, way, overrideOf, Removed. -/
namespace Go.Proofs.YtfadjgaledddjaaGreatDoor
open Go.RowKit
set_option linter.unusedVariables false
set_option maxHeartbeats 1000000
set_option maxRecDepth 100000
theorem way_any (x : Int) (w : World) : Calls Tryz.prog 101 #[.int .i64 x] w fun e w' => e = .returned (.int .i64 (if Ex.odd x then 1 else 0)) ∧ w = w' := by
  by_cases h1 : x = 17
  · subst h1
    go_enter Tryz.func101, Tryz.ntmps101
    go_wp2
    go_ret
    exact ⟨rfl, rfl⟩
  · by_cases h2 : x = 18
    · subst h2
      go_enter Tryz.func101, Tryz.ntmps101
      go_wp2
      go_ret
      exact ⟨rfl, rfl⟩
    · by_cases h3 : x = 21
      · subst h3
        go_enter Tryz.func101, Tryz.ntmps101
        go_wp2
        go_ret
        exact ⟨rfl, rfl⟩
      · have ho : Ex.odd x = false := by unfold Ex.odd; simp [h1, h2, h3]
        rw [ho]
        clear ho
        go_enter Tryz.func101, Tryz.ntmps101
        go_wp2
        go_ret
        exact ⟨rfl, rfl⟩
theorem overrideOf_any (x : Int) (w : World) : Calls Tryz.prog 82 #[.int .i64 x] w fun e w' => e = .returned (.int .i64 (Ex.ovr x)) ∧ w = w' := by
  by_cases h1 : x = 16
  · subst h1
    go_enter Tryz.func82, Tryz.ntmps82
    go_wp2
    go_ret
    exact ⟨rfl, rfl⟩
  · by_cases h2 : x = 18
    · subst h2
      go_enter Tryz.func82, Tryz.ntmps82
      go_wp2
      go_ret
      exact ⟨rfl, rfl⟩
    · have ho : Ex.ovr x = 0 := by unfold Ex.ovr; simp [h1, h2]
      rw [ho]
      clear ho
      go_enter Tryz.func82, Tryz.ntmps82
      go_wp2
      go_ret
      exact ⟨rfl, rfl⟩
theorem rm_cases (x : Int) : (Ex.rm x = true ∧ (x = 17 ∨ x = 15 ∨ x = 18 ∨ x = 16 ∨ x = 19 ∨ x = 10)) ∨ (Ex.rm x = false ∧ ¬ x = 17 ∧ ¬ x = 15 ∧ ¬ x = 18 ∧ ¬ x = 16 ∧ ¬ x = 19 ∧ ¬ x = 10) := by
  cases h : Ex.rm x with
  | true =>
    left
    unfold Ex.rm at h
    simp only [Bool.or_eq_true, beq_iff_eq] at h
    exact ⟨rfl, by omega⟩
  | false =>
    right
    unfold Ex.rm at h
    simp only [Bool.or_eq_false_iff, beq_eq_false_iff_ne] at h
    exact ⟨rfl, by omega⟩
theorem removed_any (x : Int) (w : World) : Calls Tryz.prog 16 #[.int .i64 x] w fun e w' => e = .returned (.bool (Ex.rm x)) ∧ w = w' := by
  rcases rm_cases x with ⟨hs, h⟩ | ⟨hs, h1, h2, h3, h4, h5, h6⟩
  · rcases h with rfl | rfl | rfl | rfl | rfl | rfl
    all_goals
      clear hs
      go_enter Tryz.func16, Tryz.ntmps16
      go_wp2
      go_ret
      exact ⟨rfl, rfl⟩
  · rw [hs]
    clear hs
    go_enter Tryz.func16, Tryz.ntmps16
    go_wp2
    go_ret
    exact ⟨rfl, rfl⟩
theorem entInfo : (Tryz.prog.info? 98).map (fun i => (i.zero, i.size, i.bytes)) = some (some (.agg #[.int .i64 0, .int .i64 0, .bool false]), 3, 24) := by kernel_rfl
theorem entCells : Tryz.prog.cellsOf 98 = 3 := by kernel_rfl
theorem overflows_any {B : Nat} {w : World} {p : Nat} {S : Ex.St} {g cap : Nat} (h : SA B w p S g cap) :
    Calls Tryz.prog 85 #[.pointer (some ⟨p, 0, none⟩)] w fun e w' => e = .returned (.bool (!(S.oi == 0 && S.oe == 0))) ∧ w = w' := by
  have c1 := h.c1
  have c2 := h.c2
  obtain ⟨st, oi, oe, va⟩ := S
  simp only at c1 c2 ⊢
  clear h
  by_cases h1 : 0 < oi
  · have h1' : (0 : Int) < (oi : Int) := by omega
    have e1 : (oi == 0) = false := beq_false_of_ne (by omega)
    rw [e1]
    go_enter Tryz.func85, Tryz.ntmps85
    go_wp2
    go_ret
    exact ⟨rfl, rfl⟩
  · obtain rfl : oi = 0 := by omega
    by_cases h2 : 0 < oe
    · have h2' : (0 : Int) < (oe : Int) := by omega
      have e1 : (oe == 0) = false := beq_false_of_ne (by omega)
      rw [e1]
      go_enter Tryz.func85, Tryz.ntmps85
      go_wp2
      go_ret
      exact ⟨rfl, rfl⟩
    · obtain rfl : oe = 0 := by omega
      go_enter Tryz.func85, Tryz.ntmps85
      go_wp2
      go_ret
      exact ⟨rfl, rfl⟩
theorem last_any {B : Nat} {w : World} {p : Nat} {S : Ex.St} {g cap : Nat} (h : SA B w p S g cap) (hn : 0 < S.st.length) :
    Calls Tryz.prog 83 #[.pointer (some ⟨p, 0, none⟩)] w fun e w' => e = .returned (.agg #[.int .i64 (Ex.hd S.st).lv, .int .i64 (Ex.hd S.st).ov, .bool (Ex.hd S.st).is]) ∧ Below w.heap.size w w' := by
  obtain ⟨m, hm⟩ : ∃ m, S.st.length = m + 1 := ⟨S.st.length - 1, by omega⟩
  have c0 := h.c0
  rw [hm] at c0
  obtain ⟨t0, t1, t2⟩ := h.top hm
  obtain ⟨lt1, lt2, _⟩ := h.lt
  have hc := h.caps
  unfold maxLen at hc
  rw [hm] at hc
  have ei : ((m + 1 : Nat) : Int) - 1 = (m : Int) := by omega
  have hmm : (m : Int) < ((m + 1 : Nat) : Int) := by omega
  generalize (Ex.hd S.st).lv = lv at *
  generalize (Ex.hd S.st).ov = ov at *
  generalize (Ex.hd S.st).is = is at *
  have np : ¬ p = w.heap.size := by omega
  have ng : ¬ g = w.heap.size := by omega
  clear h hm hn
  go_enter Tryz.func83, Tryz.ntmps83
  go_wp2
  go_region
  all_goals (try go_wp2)
  all_goals
    refine bodyPost_ret (v := .agg #[.int .i64 lv, .int .i64 ov, .bool is]) (by simp [results, Tryz.results83, go_sem]) rfl ⟨rfl, ?_⟩
    exact Below.drew (Below.alloc (Below.refl _ _) (Nat.le_refl _) _)
theorem run_upto3 {P : Program} {t e : TypeId} {i : TypeInfo} (ht : P.underlying t = some (.slice e)) (hi : P.info? e = some i) (hc : P.cellsOf e = 3) (ao : Option Addr) (n cap j : Nat) (hj : j ≤ cap) (w : World) :
    (Instr.slice t (.slice ao n cap) none (some (.int .i64 (j : Int))) none).run P w = .ok (.slice ao j cap) w := by
  have e1 : (0 : Int) ≤ (j : Int) ∧ (j : Int) ≤ (cap : Int) := by omega
  simp [Instr.slice, run_underlying ht, Instr.sliceBounds, go_sem, e1, run_sizeOf w hi, hc]
theorem drop_any {B : Nat} {w : World} {p : Nat} {S : Ex.St} {g cap : Nat} (h : SA B w p S g cap) (hn : 0 < S.st.length) :
    Calls Tryz.prog 84 #[.pointer (some ⟨p, 0, none⟩)] w fun e w' => e = .returned (.tuple #[]) ∧ SA B w' p ⟨S.st.tail, S.oi, S.oe, S.va⟩ g cap ∧ Below B w w' := by
  obtain ⟨m, hm⟩ : ∃ m, S.st.length = m + 1 := ⟨S.st.length - 1, by omega⟩
  have c0 := h.c0
  rw [hm] at c0
  have f0 := h.fz 0
  have HS := hide (h.pop hm).drew
  have HB := hide (((Below.refl B w).setCell (p := ⟨p, 0, none⟩) h.ge (.slice (some ⟨g, 0, none⟩) m cap)).drew)
  have hc := h.caps
  unfold maxLen at hc
  rw [hm] at hc
  obtain ⟨ii, hii, hy0, hy1, hy2⟩ := info_parts entInfo
  have hsl := fun w' => run_upto3 Tryz.underlying99 hii entCells (some ⟨g, 0, none⟩) (m + 1) cap m (by omega) w'
  have ei : ((m + 1 : Nat) : Int) - 1 = (m : Int) := by omega
  clear h hm hn hy0 hy1 hy2
  go_enter Tryz.func84, Tryz.ntmps84
  go_wp2
  go_region
  all_goals (try go_wp2)
  all_goals go_end0
  all_goals exact ⟨rfl, HS.out, HB.out⟩
theorem field_lv (a b : Int) (c : Bool) (w : World) : (Instr.field 98 (.agg #[.int .i64 a, .int .i64 b, .bool c]) 0).run Tryz.prog w = .ok (.int .i64 a) w := by kernel_rfl
theorem field_is (a b : Int) (c : Bool) (w : World) : (Instr.field 98 (.agg #[.int .i64 a, .int .i64 b, .bool c]) 2).run Tryz.prog w = .ok (.bool c) w := by kernel_rfl
theorem nl_even {l : Int} {o : Bool} (h : 0 ≤ l) (he : (l + 1) % 2 = (if o then 1 else 0)) : Ex.nl l o = l + 1 := by
  unfold Ex.nl; rw [if_pos he]
theorem nl_odd {l : Int} {o : Bool} (h : 0 ≤ l) (he : ¬ (l + 1) % 2 = (if o then 1 else 0)) : Ex.nl l o = l + 1 + 1 := by
  unfold Ex.nl; rw [if_neg he]; omega
theorem next_any {B : Nat} {w : World} {p : Nat} {S : Ex.St} {g cap : Nat} (h : SA B w p S g cap) (hn : 0 < S.st.length) (h0 : 0 ≤ (Ex.hd S.st).lv) (h1 : (Ex.hd S.st).lv ≤ 125) (x : Int) :
    Calls Tryz.prog 81 #[.pointer (some ⟨p, 0, none⟩), .int .i64 x] w fun e w' => e = .returned (.tuple #[.int .i64 (Ex.nl (Ex.hd S.st).lv (Ex.odd x)), .bool (Ex.can S (Ex.odd x))]) ∧ Below w.heap.size w w' := by
  have HL := hide (last_any h hn)
  have hfl := field_lv
  have HW := hide (fun w' => way_any x w')
  have HO := hide (fun w' (hb : Below w.heap.size w w') => overflows_any (h.below hb))
  have HC := hide (show Ex.can S (Ex.odd x) = (decide (Ex.nl (Ex.hd S.st).lv (Ex.odd x) ≤ 125) && (S.oi == 0 && S.oe == 0)) from rfl)
  generalize Ex.can S (Ex.odd x) = cc at *
  generalize (S.oi == 0 && S.oe == 0) = q at *
  generalize (Ex.hd S.st).lv = l at *
  generalize (Ex.hd S.st).ov = ov at *
  generalize (Ex.hd S.st).is = is at *
  generalize Ex.odd x = o at *
  have hnl := Ex.nl_gt l o
  by_cases he : (l + 1) % 2 = (if o then 1 else 0)
  · have e2 := nl_even h0 he
    rw [e2] at HC hnl ⊢
    have e1 : ((l + 1) % 2 != (if o then (1 : Int) else 0)) = false := by simp [he]
    generalize (if o then (1 : Int) else 0) = wy at *
    clear h hn e2
    by_cases h3 : l + 1 ≤ 125
    · rw [decide_eq_true h3, Bool.true_and] at HC
      go_enter Tryz.func81, Tryz.ntmps81
      go_wp2_with (first
        | (go_at_call 83; refine HL.out.mono ?_; rintro e w1 ⟨rfl, hb1⟩)
        | (go_at_call 101; refine (HW.out _).mono ?_; rintro e w2 ⟨rfl, rfl⟩)
        | (go_at_call 85; refine (HO.out _ hb1).mono ?_; rintro e w2 ⟨rfl, rfl⟩))
      go_ret2
      exact ⟨by rw [HC.out]; simp, hb1⟩
    · rw [decide_eq_false h3, Bool.false_and] at HC
      go_enter Tryz.func81, Tryz.ntmps81
      go_wp2_with (first
        | (go_at_call 83; refine HL.out.mono ?_; rintro e w1 ⟨rfl, hb1⟩)
        | (go_at_call 101; refine (HW.out _).mono ?_; rintro e w2 ⟨rfl, rfl⟩)
        | (go_at_call 85; refine (HO.out _ hb1).mono ?_; rintro e w2 ⟨rfl, rfl⟩))
      go_ret2
      exact ⟨by rw [HC.out]; rfl, hb1⟩
  · have e2 := nl_odd h0 he
    rw [e2] at HC hnl ⊢
    have e1 : ((l + 1) % 2 != (if o then (1 : Int) else 0)) = true := by simp [he]
    generalize (if o then (1 : Int) else 0) = wy at *
    clear h hn e2
    by_cases h3 : l + 1 + 1 ≤ 125
    · rw [decide_eq_true h3, Bool.true_and] at HC
      go_enter Tryz.func81, Tryz.ntmps81
      go_wp2_with (first
        | (go_at_call 83; refine HL.out.mono ?_; rintro e w1 ⟨rfl, hb1⟩)
        | (go_at_call 101; refine (HW.out _).mono ?_; rintro e w2 ⟨rfl, rfl⟩)
        | (go_at_call 85; refine (HO.out _ hb1).mono ?_; rintro e w2 ⟨rfl, rfl⟩))
      go_ret2
      exact ⟨by rw [HC.out]; simp, hb1⟩
    · rw [decide_eq_false h3, Bool.false_and] at HC
      go_enter Tryz.func81, Tryz.ntmps81
      go_wp2_with (first
        | (go_at_call 83; refine HL.out.mono ?_; rintro e w1 ⟨rfl, hb1⟩)
        | (go_at_call 101; refine (HW.out _).mono ?_; rintro e w2 ⟨rfl, rfl⟩)
        | (go_at_call 85; refine (HO.out _ hb1).mono ?_; rintro e w2 ⟨rfl, rfl⟩))
      go_ret2
      exact ⟨by rw [HC.out]; rfl, hb1⟩
end Go.Proofs.YtfadjgaledddjaaGreatDoor

/- The stack's methods that tell and change: tell, embed, isolate, takenAs. -/
namespace Go.Proofs.YtfadjgaledddjaaGreatDoor
open Go.RowKit
set_option linter.unusedVariables false
set_option maxHeartbeats 1000000
set_option maxRecDepth 100000
theorem tell_any {B : Nat} {w : World} {p : Nat} {S : Ex.St} {g cap : Nat} (h : SA B w p S g cap) {b : Int} (hc : Ex.Chain b S.st) (x : Int) :
    Calls Tryz.prog 59 #[.pointer (some ⟨p, 0, none⟩), .int .i64 x] w fun e w' => e = .returned (.tuple #[.int .i64 (Ex.tl b S x), .int .i64 (Ex.ty S x)]) ∧ Below w.heap.size w w' := by
  have HR := hide (removed_any x w)
  have HL := hide (last_any h hc.pos)
  cases hr : Ex.rm x with
  | true =>
    have e1 : Ex.tl b S x = -1 := by unfold Ex.tl; rw [if_pos hr]
    have e2 : Ex.ty S x = x := by unfold Ex.ty; rw [if_pos hr]
    rw [e1, e2]
    rw [hr] at HR
    clear e1 e2 hr h hc HL
    go_enter Tryz.func59, Tryz.ntmps59
    go_wp2_with (go_at_call 16; refine HR.out.mono ?_; rintro e w2 ⟨rfl, rfl⟩)
    go_ret2
    exact ⟨rfl, Below.refl _ _⟩
  | false =>
    rw [hr] at HR
    by_cases hx : x = 11
    · have e1 : Ex.tl b S x = b := by unfold Ex.tl; rw [if_neg (by rw [hr]; decide), if_pos hx]
      have e2 : Ex.ty S x = x := by unfold Ex.ty; rw [if_neg (by rw [hr]; decide), if_pos hx]
      rw [e1, e2]
      have c0 := h.c0
      obtain ⟨t0, _, _⟩ := h.bot hc
      have hp := hc.pos
      have hcap := h.caps
      unfold maxLen at hcap
      generalize S.st.length = n at *
      have hpi : (0 : Int) < (n : Int) := by omega
      clear e1 e2 hr h hc HL
      subst hx
      go_enter Tryz.func59, Tryz.ntmps59
      go_wp2_with (go_at_call 16; refine HR.out.mono ?_; rintro e w2 ⟨rfl, rfl⟩)
      go_ret2
      exact ⟨rfl, Below.refl _ _⟩
    · have e1 : Ex.tl b S x = (Ex.hd S.st).lv := by unfold Ex.tl; rw [if_neg (by rw [hr]; decide), if_neg hx]
      have e2 : Ex.ty S x = if (Ex.hd S.st).ov = 0 then x else (Ex.hd S.st).ov := by unfold Ex.ty; rw [if_neg (by rw [hr]; decide), if_neg hx]
      rw [e1, e2]
      have ho := hc.ov
      have hx2 : (x == 11) = false := beq_false_of_ne hx
      generalize (Ex.hd S.st).lv = l at *
      generalize (Ex.hd S.st).ov = ov at *
      generalize (Ex.hd S.st).is = is at *
      have ho3 : ov = 0 ∨ ov = 1 ∨ ov = 2 := by omega
      clear e1 e2 hr h hc hx ho
      rcases ho3 with rfl | rfl | rfl
      all_goals
        go_enter Tryz.func59, Tryz.ntmps59
        go_wp2_with (first
          | (go_at_call 16; refine HR.out.mono ?_; rintro e w2 ⟨rfl, rfl⟩)
          | (go_at_call 83; refine HL.out.mono ?_; rintro e w1 ⟨rfl, hb1⟩))
        go_ret2
        exact ⟨rfl, Below.alloc hb1 hb1.size _⟩
theorem step_append_ent {P : Program} (w : World) {ops : Array Oper} {o : Oper} {a : Act} {K : Act → World → Prop} {Q : Exit → Act → World → Prop} {E : Prop} (hgd : o.guard = none) (s x : Operand) (t : TypeId)
    (ho : o.op = .call { callee := .builtin .append, args := #[s, x], argTypes := #[t, t] })
    (base : Nat) (e : TypeId) (i : TypeInfo) (z : Value) (ht : P.underlying t = some (.slice e)) (hi : P.info? e = some i) (hz : i.zero = some z)
    (hsize : i.size = 3) (hby : i.bytes = 24) (hzs : z.cells.size = 3)
    (v : Value) (n : Nat) (xs : List Value) (hs : a.eval s = v) (en : Ex.Ent) (hown : w.ownsRow base e 3 v n xs)
    (hx : a.eval x = .slice (some ⟨w.heap.size, 0, none⟩) 1 1)
    (hn : n ≤ 1000) (hbase : base ≤ w.heap.size)
    (h : ∀ v' w', w'.ownsRow base e 3 v' (n + 1) (xs ++ ec en) → (w.alloc (.cells #[.int .i64 en.lv, .int .i64 en.ov, .bool en.is] e)).grownBy w' v.ownBlock → K (a.put o.dst v') w') :
    if Region.wanted o (yielded ops a.tmps) = true then Oper.wp P o a (w.alloc (.cells #[.int .i64 en.lv, .int .i64 en.ov, .bool en.is] e)) K Q else E := by
  have hw : Region.wanted o (yielded ops a.tmps) = true := by simp [Region.wanted, hgd]
  rw [if_pos hw]
  have hown' := hown.alloc (.cells #[.int .i64 en.lv, .int .i64 en.ov, .bool en.is] e)
  refine wp_append_own _ s x t ho base e i z 3 24 ht hi hz hsize hby hzs (by decide) v n xs hs hown' ⟨w.heap.size, 0, none⟩ 1 1 (ec en) hx rfl ?_ ?_ (by unfold maxLen; omega) (by omega) (by simp; omega) (fun v' w' g1 g2 _ => h v' w' g1 g2)
  · intro j u hj
    have hadd : (⟨w.heap.size, 0, none⟩ : Addr).add j = ⟨w.heap.size, j, none⟩ := by unfold Addr.add; split <;> simp_all
    rw [hadd]
    unfold World.cell?
    rw [heap_alloc_last]
    show (#[.int .i64 en.lv, .int .i64 en.ov, .bool en.is] : Array Value)[j]? = some u
    rw [← hj]
    simp [ec]
  · intro u hu
    simp only [ec, List.mem_cons, List.not_mem_nil, or_false] at hu
    rcases hu with rfl | rfl | rfl <;> simp [Value.oneCell']
theorem wpList_append_ent {P : Program} (w : World) {ops : Array Oper} {rest : List Oper} {o : Oper} {a : Act} {Q : Exit → Act → World → Prop} (hgd : o.guard = none) (s x : Operand) (t : TypeId)
    (ho : o.op = .call { callee := .builtin .append, args := #[s, x], argTypes := #[t, t] })
    (base : Nat) (e : TypeId) (i : TypeInfo) (z : Value) (ht : P.underlying t = some (.slice e)) (hi : P.info? e = some i) (hz : i.zero = some z)
    (hsize : i.size = 3) (hby : i.bytes = 24) (hzs : z.cells.size = 3)
    (v : Value) (n : Nat) (xs : List Value) (hs : a.eval s = v) (en : Ex.Ent) (hown : w.ownsRow base e 3 v n xs)
    (g : Nat) (hg : g = w.heap.size) (hx : a.eval x = .slice (some ⟨g, 0, none⟩) 1 1)
    (hn : n ≤ 1000) (hbase : base ≤ w.heap.size)
    (h : ∀ v' w', w'.ownsRow base e 3 v' (n + 1) (xs ++ ec en) → (w.alloc (.cells #[.int .i64 en.lv, .int .i64 en.ov, .bool en.is] e)).grownBy w' v.ownBlock → wpList P ops Q rest (a.put o.dst v') w') :
    wpList P ops Q (o :: rest) a (w.alloc (.cells #[.int .i64 en.lv, .int .i64 en.ov, .bool en.is] e)) := by
  subst hg
  refine wpList_plain hgd fun K hK => ?_
  have h1 := step_append_ent (ops := ops) (E := False) (Q := Q) (K := K) w hgd s x t ho base e i z ht hi hz hsize hby hzs v n xs hs en hown hx hn hbase (fun v' w' g1 g2 => hK _ _ (h v' w' g1 g2))
  have hw : Region.wanted o (yielded ops a.tmps) = true := by simp [Region.wanted, hgd]
  rw [if_pos hw] at h1
  exact h1
theorem build_emb (l o : Int) (w : World) : (Instr.build 98 #[(0, .int .i64 l), (1, .int .i64 o)]).run Tryz.prog w = .ok (.agg #[.int .i64 l, .int .i64 o, .bool false]) w := run_build w 98 _ _ (by kernel_rfl)
theorem build_iso (l : Int) (w : World) : (Instr.build 98 #[(0, .int .i64 l), (2, .bool true)]).run Tryz.prog w = .ok (.agg #[.int .i64 l, .int .i64 0, .bool true]) w := run_build w 98 _ _ (by kernel_rfl)
theorem build_ent1 (x y : Int) (z : Bool) (w : World) : (Instr.buildSlice 99 1 #[(0, .agg #[.int .i64 x, .int .i64 y, .bool z])]).run Tryz.prog w = .ok (.slice (some ⟨w.heap.size, 0, none⟩) 1 1) (w.alloc (.cells #[.int .i64 x, .int .i64 y, .bool z] 98)) := by
  have hq := entInfo
  cases hi : Tryz.prog.info? 98 with
  | none => rw [hi] at hq; cases hq
  | some ie =>
    rw [hi] at hq
    simp only [Option.map_some, Option.some.injEq, Prod.mk.injEq] at hq
    refine run_buildSlice w 99 98 1 _ _ ie _ Tryz.underlying99 hi hq.1 (by rw [hq.2.1]; decide) (by rw [hq.2.1]; decide) ?_
    rw [hq.2.1]
    kernel_rfl
theorem below_push {B : Nat} {w w' : World} {g p : Nat} {o : Obj} {v : Value} (hB : B ≤ w.heap.size) (hg : (w.alloc o).grownBy w' (some g)) (hgB : B ≤ g) (hp : B ≤ p) : Below B w (w'.setCell ⟨p, 0, none⟩ v) :=
  (((Below.refl B w).alloc hB o).grown hg (by simp; omega) (fun j hj => by simp at hj; omega)).setCell (p := ⟨p, 0, none⟩) hp v
/-- The stack's first cell, held through a statement. -/
def Kc (p : Nat) (v : Value) (w : World) : Prop := w.cell? ⟨p, 0, none⟩ = some v ∧ w.frozen? ⟨p, 0, none⟩ = false
theorem Kc.alloc {p : Nat} {v : Value} {w : World} (h : Kc p v w) (o : Obj) : Kc p v (w.alloc o) := by
  have hlt : p < w.heap.size := World.block_lt_of_cell? w _ h.1
  have hb := (Below.alloc (Below.refl w.heap.size w) (Nat.le_refl _) o).block p hlt
  exact ⟨(World.cell?_of_block (a := ⟨p, 0, none⟩) hb).trans h.1, (World.frozen?_of_block (a := ⟨p, 0, none⟩) hb).trans h.2⟩
theorem embed_any {B : Nat} {w : World} {p : Nat} {S : Ex.St} {g cap : Nat} (h : SA B w p S g cap) {b : Int} {k : Nat} (hok : Ex.Ok b S k) (hb : 0 ≤ b) (hb1 : b ≤ 1) (hk : k ≤ 17592186044416) (x : Int) :
    Calls Tryz.prog 56 #[.pointer (some ⟨p, 0, none⟩), .int .i64 x] w fun e w' => e = .returned (.tuple #[]) ∧ (∃ g' cap', SA B w' p (Ex.emb S x) g' cap') ∧ Below B w w' := by
  have hlo := hok.ch.lo
  have hhi := hok.ch.hi (by omega)
  have hlen := hok.ch.len
  have HN := hide (next_any h hok.ch.pos (by omega) hhi x)
  have HV := hide (fun w' => overrideOf_any x w')
  have hnl := Ex.nl_gt (Ex.hd S.st).lv (Ex.odd x)
  have hkoi := hok.oi
  have hkoe := hok.oe
  cases hc : Ex.can S (Ex.odd x) with
  | true =>
    have e1 : Ex.emb S x = ⟨⟨Ex.nl (Ex.hd S.st).lv (Ex.odd x), Ex.ovr x, false⟩ :: S.st, S.oi, S.oe, S.va⟩ := by unfold Ex.emb; rw [if_pos hc]
    rw [e1]
    rw [hc] at HN
    obtain ⟨ii, hii, hy0, hy1, hy2⟩ := info_parts entInfo
    have HII := hide hii
    have HY0 := hide hy0
    have HY1 := hide hy1
    have HY2 := hide hy2
    have hbd := build_emb
    have hbo := build_ent1
    have HA := hide h
    generalize hl : Ex.nl (Ex.hd S.st).lv (Ex.odd x) = l at *
    generalize Ex.ovr x = ov at *
    have hn1 : S.st.length ≤ 126 := by omega
    clear e1 hc hii hy0 hy1 hy2 h hl hok hlo hhi hlen hkoi hkoe
    go_enter Tryz.func56, Tryz.ntmps56
    go_wp2_with (go_at_call 81; refine HN.out.mono ?_; rintro e w1 ⟨rfl, hb1⟩)
    have HS := hide ((HA.out.below hb1).drew)
    have HB := hide (show Below B w w1.drew from (hb1.mono HA.out.size).drew)
    have c0 := HS.out.c0
    have f0 := HS.out.fz 0
    have np : ∀ o : Obj, (w1.alloc o).cell? ⟨p, 0, none⟩ = some (.slice (some ⟨g, 0, none⟩) S.st.length cap) := fun o => (Kc.alloc (w := w1) ⟨(HA.out.below hb1).c0, (HA.out.below hb1).fz 0⟩ o).1
    clear hb1 HN
    go_region_law (first
      | (go_simp; go_at_call 82; refine (HV.out _).mono ?_; rintro e w2 ⟨rfl, rfl⟩; go_simp)
      | (refine step_append_ent w1.drew rfl (.tmp 17) (.tmp 22) 99 rfl B 98 ii _ Tryz.underlying99 HII.out HY0.out HY1.out HY2.out rfl _ S.st.length _ rfl ⟨l, ov, false⟩ HS.out.own rfl (by omega) HS.out.size ?_; intro v' w' ho' hg'; obtain ⟨cp, fp⟩ := HS.out.grown hg'; have hb' := below_push (v := v') (p := p) HS.out.size hg' HS.out.lt.2.2 HS.out.ge; obtain ⟨g', cap', rfl, hsa⟩ := HS.out.push (e := ⟨l, ov, false⟩) ho' hg'))
    all_goals
      have HSA := hide hsa
      have HBB := hide (HB.out.trans hb')
      clear hsa hb' ho' hg' cp fp np c0 f0
      go_wp2
      go_end0
      exact ⟨rfl, ⟨g', cap', HSA.out⟩, HBB.out⟩
  | false =>
    rw [hc] at HN
    have hcf : ¬ Ex.can S (Ex.odd x) = true := by rw [hc]; decide
    by_cases h0 : S.oi = 0
    · have e1 : Ex.emb S x = ⟨S.st, S.oi, S.oe + 1, S.va⟩ := by unfold Ex.emb; rw [if_neg hcf, if_pos h0]
      rw [e1]
      have HA := hide h
      generalize Ex.nl (Ex.hd S.st).lv (Ex.odd x) = l at *
      clear e1 hc hcf h hlo hhi hlen hok
      go_enter Tryz.func56, Tryz.ntmps56
      go_wp2_with fail
      refine HN.out.mono ?_
      rintro e w1 ⟨rfl, hb1⟩
      have hs := HA.out.below hb1
      have HB := hide (hb1.mono HA.out.size)
      have c1 := hs.c1
      rw [h0] at c1
      have c2 := hs.c2
      have f2 := hs.fz 2
      have HS := hide (hs.setOe (z := (S.oe : Int) + 1) (k := S.oe + 1) (by omega))
      have hge := hs.ge
      clear hs hb1 HN HA
      go_wp2
      go_end0
      exact ⟨rfl, ⟨g, cap, HS.out⟩, HB.out.setCell (p := ⟨p, 2, none⟩) hge _⟩
    · have e1 : Ex.emb S x = S := by unfold Ex.emb; rw [if_neg hcf, if_neg h0]
      rw [e1]
      have HA := hide h
      generalize Ex.nl (Ex.hd S.st).lv (Ex.odd x) = l at *
      clear e1 hc hcf h hlo hhi hlen hok
      go_enter Tryz.func56, Tryz.ntmps56
      go_wp2_with fail
      refine HN.out.mono ?_
      rintro e w1 ⟨rfl, hb1⟩
      have HS := hide (HA.out.below hb1)
      have HB := hide (hb1.mono HA.out.size)
      have c1 := HS.out.c1
      generalize S.oi = oi at *
      have e0 : ((oi : Int) == 0) = false := beq_false_of_ne (by omega)
      clear hb1 HN HA
      go_wp2
      go_end0
      exact ⟨rfl, ⟨g, cap, HS.out⟩, HB.out⟩
theorem isolate_any {B : Nat} {w : World} {p : Nat} {S : Ex.St} {g cap : Nat} (h : SA B w p S g cap) {b : Int} {k : Nat} (hok : Ex.Ok b S k) (hb : 0 ≤ b) (hb1 : b ≤ 1) (hk : k ≤ 17592186044416) (x : Int) :
    Calls Tryz.prog 60 #[.pointer (some ⟨p, 0, none⟩), .int .i64 x] w fun e w' => e = .returned (.tuple #[]) ∧ (∃ g' cap', SA B w' p (Ex.iso S (Ex.odd x)) g' cap') ∧ Below B w w' := by
  have hlo := hok.ch.lo
  have hhi := hok.ch.hi (by omega)
  have hlen := hok.ch.len
  have HN := hide (next_any h hok.ch.pos (by omega) hhi x)
  have hkoi := hok.oi
  have hkva : S.va ≤ 126 := by have h1 := hok.va; have h2 := Ex.cn_le S.st; omega
  have hn1 : S.st.length ≤ 126 := by omega
  generalize Ex.odd x = o at *
  cases hc : Ex.can S o with
  | true =>
    have e1 : Ex.iso S o = ⟨⟨Ex.nl (Ex.hd S.st).lv o, 0, true⟩ :: S.st, S.oi, S.oe, S.va + 1⟩ := by unfold Ex.iso; rw [if_pos hc]
    rw [e1]
    rw [hc] at HN
    obtain ⟨ii, hii, hy0, hy1, hy2⟩ := info_parts entInfo
    have HII := hide hii
    have HY0 := hide hy0
    have HY1 := hide hy1
    have HY2 := hide hy2
    have hbd := build_iso
    have hbo := build_ent1
    have HA := hide h
    generalize Ex.nl (Ex.hd S.st).lv o = l at *
    clear e1 hc hii hy0 hy1 hy2 h hlo hhi hlen hok
    go_enter Tryz.func60, Tryz.ntmps60
    go_wp2_with fail
    refine HN.out.mono ?_
    rintro e w1 ⟨rfl, hb1⟩
    have hs := HA.out.below hb1
    have c3 := hs.c3
    have f3 := hs.fz 3
    have HS := hide (hs.setVa (z := (S.va : Int) + 1) (k := S.va + 1) (by omega))
    have HB := hide ((hb1.mono HA.out.size).setCell (p := ⟨p, 3, none⟩) HA.out.ge (.int .i64 ((S.va : Int) + 1)))
    obtain ⟨W, hW⟩ : ∃ W, w1.setCell ⟨p, 3, none⟩ (.int .i64 ((S.va : Int) + 1)) = W := ⟨_, rfl⟩
    rw [hW] at HS HB
    have c0 := HS.out.c0
    have f0 := HS.out.fz 0
    clear hs hb1 HN HA
    go_wp2_with (at_builtin; refine wpList_append_ent W rfl (.tmp 32) (.tmp 35) 99 rfl B 98 ii _ Tryz.underlying99 HII.out HY0.out HY1.out HY2.out rfl _ S.st.length _ rfl ⟨l, 0, true⟩ HS.out.own _ rfl rfl (by omega) HS.out.size ?_; intro v' w' ho' hg'; obtain ⟨cp, fp⟩ := HS.out.grown hg'; have hb' := below_push (v := v') (p := p) HS.out.size hg' HS.out.lt.2.2 HS.out.ge; obtain ⟨g', cap', rfl, hsa⟩ := HS.out.push (e := ⟨l, 0, true⟩) ho' hg')
    go_end0
    exact ⟨rfl, ⟨g', cap', hsa⟩, HB.out.trans hb'⟩
  | false =>
    rw [hc] at HN
    have e1 : Ex.iso S o = ⟨S.st, S.oi + 1, S.oe, S.va⟩ := by unfold Ex.iso; rw [if_neg (by rw [hc]; decide)]
    rw [e1]
    have HA := hide h
    generalize Ex.nl (Ex.hd S.st).lv o = l at *
    clear e1 hc h hlo hhi hlen hok
    go_enter Tryz.func60, Tryz.ntmps60
    go_wp2_with fail
    refine HN.out.mono ?_
    rintro e w1 ⟨rfl, hb1⟩
    have hs := HA.out.below hb1
    have HB := hide (hb1.mono HA.out.size)
    have c1 := hs.c1
    have f1 := hs.fz 1
    have HS := hide (hs.setOi (z := (S.oi : Int) + 1) (k := S.oi + 1) (by omega))
    have hge := hs.ge
    clear hs hb1 HN HA
    go_wp2
    refine bodyPost_ret (results_none rfl _ _ _) rfl ?_
    exact ⟨rfl, ⟨g, cap, HS.out⟩, HB.out.setCell (p := ⟨p, 1, none⟩) hge _⟩
/-- What an FSI is taken as: where no next level can be, either does the same. -/
theorem iso_taken {S : Ex.St} {r : List Int} {x : Int} (h : (S.oi == 0 && S.oe == 0) = false ∨ 125 ≤ (Ex.hd S.st).lv) (o o' : Bool) : Ex.iso S o = Ex.iso S o' := by
  have hf : ∀ q, Ex.can S q = false := by
    intro q
    rcases h with h | h
    · cases hc : Ex.can S q with
      | false => rfl
      | true =>
        obtain ⟨_, h2, h3⟩ := Ex.can_true hc
        simp [h2, h3] at h
    · exact Ex.can_lv (by have := Ex.nl_gt (Ex.hd S.st).lv q; omega)
  unfold Ex.iso
  rw [hf o, hf o']
  rfl
theorem takenAs_any {B : Nat} {w : World} {p : Nat} {S : Ex.St} {g cap : Nat} (h : SA B w p S g cap) (hpos : 0 < S.st.length) (ao : Option Addr) (n cap0 : Nat) (c : List Int) (hr : Row .i64 w ao n cap0 c) (hn : n * 8 ≤ 140737488351232) (i : Nat) (hi : i < n) :
    Calls Tryz.prog 61 #[.pointer (some ⟨p, 0, none⟩), .slice ao n cap0, .int .i64 ((i + 1 : Nat) : Int), .int .i64 (Iso.partner c i : Int)] w fun e w' => (∃ y, e = .returned (.int .i64 y) ∧ Ex.iso S (Ex.odd y) = Ex.iso S (Ex.fs 0 (c.drop (i + 1)) == 1)) ∧ Below w.heap.size w w' := by
  have HO := hide (overflows_any h)
  have HL := hide (last_any h hpos)
  have hp1 := Iso.partner_gt c i
  have hp2 := Iso.partner_le c i (by rw [hr.len]; exact hi)
  rw [hr.len] at hp2
  have HBS := hide (fun w' (hb : Below w.heap.size w w') => base_ok ao n cap0 c (i + 1) (Iso.partner c i) w' (hr.below hb) hn (by omega) hp2)
  rw [Ex.base_fs] at HBS
  have hfl := field_lv
  have HT := hide (fun h => iso_taken (S := S) (r := []) (x := 0) h)
  generalize Ex.fs 0 (c.drop (i + 1)) = F at *
  generalize Iso.partner c i = q at *
  have hT : ∀ o, Ex.iso S o = Ex.iso S o := fun _ => rfl
  cases ho : (S.oi == 0 && S.oe == 0) with
  | false =>
    rw [ho] at HO
    have HE := hide (HT.out (.inl ho) (Ex.odd 20) (F == 1))
    clear ho h hr hn HT HBS hT HL
    go_enter Tryz.func61, Tryz.ntmps61
    go_wp2_with (go_at_call 85; refine HO.out.mono ?_; rintro e w2 ⟨rfl, rfl⟩)
    go_ret
    exact ⟨⟨20, rfl, HE.out⟩, Below.refl _ _⟩
  | true =>
    rw [ho] at HO
    by_cases hl : 125 ≤ (Ex.hd S.st).lv
    · have HE := hide (HT.out (.inr hl) (Ex.odd 20) (F == 1))
      clear ho h hr hn HT HBS hT
      generalize (Ex.hd S.st).lv = l at *
      go_enter Tryz.func61, Tryz.ntmps61
      go_wp2_with (first
        | (go_at_call 85; refine HO.out.mono ?_; rintro e w2 ⟨rfl, rfl⟩)
        | (go_at_call 83; refine HL.out.mono ?_; rintro e w1 ⟨rfl, hb1⟩))
      go_ret
      exact ⟨⟨20, rfl, HE.out⟩, hb1⟩
    · clear ho h hr hn HT hT
      generalize (Ex.hd S.st).lv = l at *
      by_cases hF : F = 1
      · subst hF
        go_enter Tryz.func61, Tryz.ntmps61
        go_wp2_with (first
          | (go_at_call 85; refine HO.out.mono ?_; rintro e w2 ⟨rfl, rfl⟩)
          | (go_at_call 83; refine HL.out.mono ?_; rintro e w1 ⟨rfl, hb1⟩)
          | (go_at_call 19; refine (HBS.out _ hb1).mono ?_; rintro e w2 ⟨rfl, rfl⟩))
        go_ret
        exact ⟨⟨21, rfl, rfl⟩, hb1⟩
      · have hF2 : (F == 1) = false := beq_false_of_ne hF
        rw [hF2]
        go_enter Tryz.func61, Tryz.ntmps61
        go_wp2_with (first
          | (go_at_call 85; refine HO.out.mono ?_; rintro e w2 ⟨rfl, rfl⟩)
          | (go_at_call 83; refine HL.out.mono ?_; rintro e w1 ⟨rfl, hb1⟩)
          | (go_at_call 19; refine (HBS.out _ hb1).mono ?_; rintro e w2 ⟨rfl, rfl⟩))
        go_ret
        exact ⟨⟨20, rfl, rfl⟩, hb1⟩
end Go.Proofs.YtfadjgaledddjaaGreatDoor

/- The ends: endIsolate, endEmbedding. -/
namespace Go.Proofs.YtfadjgaledddjaaGreatDoor
open Go.RowKit
set_option linter.unusedVariables false
set_option maxHeartbeats 1000000
set_option maxRecDepth 100000
theorem pi_head {l : List Ex.Ent} (h : 0 < l.length) : ((Ex.hd l).is = true ∧ Ex.pi l = l.tail) ∨ ((Ex.hd l).is = false ∧ Ex.pi l = Ex.pi l.tail ∧ Ex.cn l.tail = Ex.cn l) := by
  cases l with
  | nil => simp at h
  | cons e r =>
    cases he : e.is with
    | true => left; simp [Ex.hd, Ex.pi, he]
    | false => right; simp [Ex.hd, Ex.pi, Ex.cn, he]
theorem cn_pos {l : List Ex.Ent} (h : 0 < Ex.cn l) : 0 < l.length := by
  have := Ex.cn_le l; omega
theorem endIsolate_any {B : Nat} {w : World} {p : Nat} {S : Ex.St} {g cap : Nat} (h : SA B w p S g cap) {b : Int} {k : Nat} (hok : Ex.Ok b S k) (hb0 : 0 ≤ b) (hb : b ≤ 1) (hk : k ≤ 17592186044416) :
    Calls Tryz.prog 58 #[.pointer (some ⟨p, 0, none⟩)] w fun e w' => e = .returned (.tuple #[]) ∧ (∃ g' cap', SA B w' p (Ex.pdi S) g' cap') ∧ Below B w w' := by
  have hkoi := hok.oi
  have hkva : S.va ≤ 126 := by have h1 := hok.va; have h2 := Ex.cn_le S.st; have h3 := hok.ch.len; have h4 := hok.ch.hi (by omega); have h5 := hok.ch.lo; omega
  by_cases h1 : 0 < S.oi
  · have e1 : Ex.pdi S = ⟨S.st, S.oi - 1, S.oe, S.va⟩ := by unfold Ex.pdi; rw [if_pos h1]
    rw [e1]
    have h1' : (0 : Int) < (S.oi : Int) := by omega
    have c1 := h.c1
    have f1 := h.fz 1
    have HS := hide (h.setOi (z := (S.oi : Int) - 1) (k := S.oi - 1) (by omega))
    have hge := h.ge
    clear h hok e1
    go_enter Tryz.func58, Tryz.ntmps58
    go_wp2
    refine bodyPost_ret (results_none rfl _ _ _) rfl ?_
    exact ⟨rfl, ⟨g, cap, HS.out⟩, (Below.refl B w).setCell (p := ⟨p, 1, none⟩) hge _⟩
  · have h1' : ¬ (0 : Int) < (S.oi : Int) := by omega
    have c1 := h.c1
    have c3 := h.c3
    by_cases h2 : S.va = 0
    · have e1 : Ex.pdi S = S := by unfold Ex.pdi; rw [if_neg h1, if_pos h2]
      rw [e1]
      have HS := hide h
      rw [h2] at c3
      clear h hok e1
      go_enter Tryz.func58, Tryz.ntmps58
      go_wp2
      refine bodyPost_ret (results_none rfl _ _ _) rfl ?_
      exact ⟨rfl, ⟨g, cap, HS.out⟩, Below.refl B w⟩
    · have e1 : Ex.pdi S = ⟨Ex.pi S.st, S.oi, 0, S.va - 1⟩ := by unfold Ex.pdi; rw [if_neg h1, if_neg h2]
      rw [e1]
      have e3 : ((S.va : Int) == 0) = false := beq_false_of_ne (by omega)
      have f2 := h.fz 2
      have c2 := h.c2
      have HS := hide (h.setOe (z := 0) (k := 0) rfl)
      have HB := hide ((Below.refl B w).setCell (p := ⟨p, 2, none⟩) h.ge (.int .i64 0))
      have hcn : 0 < Ex.cn S.st := by have := hok.va; omega
      have HC := hide hcn
      have hfi := field_is
      clear h hok e1 hcn
      obtain ⟨R, hR⟩ : ∃ R, Ex.pi S.st = R := ⟨_, rfl⟩
      rw [hR]
      have HR := hide hR
      clear hR
      go_enter Tryz.func58, Tryz.ntmps58
      go_wp2_with (go_at_call 83; fail)
      go_loopg [] S.st.length (fun k wr => ∃ l : List Ex.Ent, l.length = k ∧ Hid (Ex.pi l = R) ∧ Hid (0 < Ex.cn l) ∧ Hid (SA B wr p ⟨l, S.oi, 0, S.va⟩ g cap) ∧ Hid (Below B w wr))
      case atStart => exact ⟨S.st, rfl, HR, HC, HS, HB⟩
      case round =>
        obtain ⟨l, hl, hR, hC, hS, hB⟩ := hrel
        have hpos : 0 < l.length := cn_pos hC.out
        have HL := hide (last_any hS.out hpos)
        rcases pi_head hpos with ⟨hi, hp⟩ | ⟨hi, hp, hc⟩
        · rw [hi] at HL
          rw [hR.out] at hp
          have HP := hide hp
          generalize (Ex.hd l).lv = lv at *
          generalize (Ex.hd l).ov = ov at *
          clear hp hi
          go_wp2_with fail
          refine HL.out.mono ?_
          rintro e w1 ⟨rfl, hb1⟩
          have hs1 := hS.out.below hb1
          have HD := hide (drop_any hs1 hpos)
          have HB1 := hide (hB.out.trans (hb1.mono hS.out.size))
          clear hs1 hb1 HL
          go_wp2_with fail
          refine HD.out.mono ?_
          rintro e w2 ⟨rfl, hs2, hb2⟩
          have c3' := hs2.c3
          have f3' := hs2.fz 3
          have HF := hide (hs2.setVa (z := (S.va : Int) - 1) (k := S.va - 1) (by omega))
          have HBF := hide ((HB1.out.trans hb2).setCell (p := ⟨p, 3, none⟩) hs2.ge (.int .i64 ((S.va : Int) - 1)))
          clear hs2 hb2 HD HB1
          go_wp2
          go_end0
          exact ⟨rfl, ⟨g, cap, by rw [HP.out]; exact HF.out⟩, HBF.out⟩
        · rw [hi] at HL
          rw [hR.out] at hp
          have HP := hide hp.symm
          have HCN := hide (show 0 < Ex.cn l.tail from by rw [hc]; exact hC.out)
          generalize (Ex.hd l).lv = lv at *
          generalize (Ex.hd l).ov = ov at *
          clear hp hi hc
          go_wp2_with fail
          refine HL.out.mono ?_
          rintro e w1 ⟨rfl, hb1⟩
          have hs1 := hS.out.below hb1
          have HD := hide (drop_any hs1 hpos)
          have HB1 := hide (hB.out.trans (hb1.mono hS.out.size))
          clear hs1 hb1 HL
          go_wp2_with fail
          refine HD.out.mono ?_
          rintro e w2 ⟨rfl, hs2, hb2⟩
          have HF := hide hs2
          have HBF := hide (HB1.out.trans hb2)
          clear hs2 hb2 HD HB1
          go_wp2
          go_roundg l.tail.length
          case measure => rw [List.length_tail]; omega
          case rel => exact ⟨l.tail, rfl, HP, HCN, HF, HBF⟩
theorem ent_cells : Tryz.prog.cellsOf 98 = 3 ∧ Tryz.prog.cellsOf 3 = 1 ∧ Tryz.prog.cellsOf 4 = 1 := ⟨by kernel_rfl, by kernel_rfl, by kernel_rfl⟩
theorem ent_keys (x y : Int) (z : Bool) (hx : (Lit.int .i64 x).wf = true) (hy : (Lit.int .i64 y).wf = true) :
    Tryz.prog.keyLits 3 98 [.int .i64 x, .int .i64 y, .bool z] = some [.int .i64 x, .int .i64 y, .bool z] ∧ (Value.agg #[.int .i64 x, .int .i64 y, .bool z]).formed Tryz.prog 98 = true := by
  constructor
  · unfold Program.keyLits
    rw [Tryz.underlying98]
    simp [ent_cells.1, ent_cells.2.1, ent_cells.2.2, Program.keyLits, Tryz.underlying3, Tryz.underlying4, hx, hy]
  · unfold Value.formed
    rw [Tryz.underlying98]
    simp [ent_cells.1]
theorem ent_eq (x y x' y' : Int) (z z' : Bool) (hx : (Lit.int .i64 x).wf = true) (hy : (Lit.int .i64 y).wf = true) (hx' : (Lit.int .i64 x').wf = true) (hy' : (Lit.int .i64 y').wf = true) (w : World) :
    (Op.equalIn 10000 98 (.agg #[.int .i64 x, .int .i64 y, .bool z]) (.agg #[.int .i64 x', .int .i64 y', .bool z'])).run Tryz.prog w = .ok (decide (x = x' ∧ y = y' ∧ z = z')) w := by
  obtain ⟨k1, f1⟩ := ent_keys x y z hx hy
  obtain ⟨k2, f2⟩ := ent_keys x' y' z' hx' hy'
  obtain ⟨r, hr, hiff⟩ := run_equalIn_deep (P := Tryz.prog) 9997 3 98 (by kernel_rfl) w 3 3 _ _ _ _ f1 f2 k1 k2
  have h2 : (r = true ↔ (x = x' ∧ y = y' ∧ z = z')) := hiff.trans (by simp)
  have h3 : r = decide (x = x' ∧ y = y' ∧ z = z') := by
    by_cases h : x = x' ∧ y = y' ∧ z = z'
    · rw [decide_eq_true h]; exact h2.2 h
    · rw [decide_eq_false h]
      cases hr' : r with
      | false => rfl
      | true => exact absurd (h2.1 hr') h
  rw [← h3]
  exact hr
theorem endEmbedding_any {B : Nat} {w : World} {p : Nat} {S : Ex.St} {g cap : Nat} (h : SA B w p S g cap) {b : Int} {k : Nat} (hok : Ex.Ok b S k) (hb0 : 0 ≤ b) (hb : b ≤ 1) (hk : k ≤ 17592186044416) :
    Calls Tryz.prog 57 #[.pointer (some ⟨p, 0, none⟩)] w fun e w' => e = .returned (.tuple #[]) ∧ (∃ g' cap', SA B w' p (Ex.pdf S) g' cap') ∧ Below B w w' := by
  have hkoi := hok.oi
  have hkoe := hok.oe
  have c1 := h.c1
  by_cases h1 : 0 < S.oi
  · have e1 : Ex.pdf S = S := by unfold Ex.pdf; rw [if_pos h1]
    rw [e1]
    have h1' : (0 : Int) < (S.oi : Int) := by omega
    have HS := hide h
    clear h hok e1
    go_enter Tryz.func57, Tryz.ntmps57
    go_wp2
    refine bodyPost_ret (results_none rfl _ _ _) rfl ?_
    exact ⟨rfl, ⟨g, cap, HS.out⟩, Below.refl B w⟩
  · have h1' : ¬ (0 : Int) < (S.oi : Int) := by omega
    have c2 := h.c2
    by_cases h2 : 0 < S.oe
    · have e1 : Ex.pdf S = ⟨S.st, S.oi, S.oe - 1, S.va⟩ := by unfold Ex.pdf; rw [if_neg h1, if_pos h2]
      rw [e1]
      have h2' : (0 : Int) < (S.oe : Int) := by omega
      have f2 := h.fz 2
      have HS := hide (h.setOe (z := (S.oe : Int) - 1) (k := S.oe - 1) (by omega))
      have hge := h.ge
      clear h hok e1
      go_enter Tryz.func57, Tryz.ntmps57
      go_wp2
      refine bodyPost_ret (results_none rfl _ _ _) rfl ?_
      exact ⟨rfl, ⟨g, cap, HS.out⟩, (Below.refl B w).setCell (p := ⟨p, 2, none⟩) hge _⟩
    · have h2' : ¬ (0 : Int) < (S.oe : Int) := by omega
      have e0 : Ex.pdf S = if (Ex.hd S.st).is = false ∧ 1 < S.st.length then ⟨S.st.tail, S.oi, S.oe, S.va⟩ else S := by unfold Ex.pdf; rw [if_neg h1, if_neg h2]
      have HA := hide h
      have HL := hide (last_any h hok.ch.pos)
      have hov := hok.ch.ov
      have hlo := hok.ch.lo
      have hhi := hok.ch.hi (by omega)
      have hpos := hok.ch.pos
      have HCH := hide hok.ch
      have heq := ent_eq (Ex.hd S.st).lv (Ex.hd S.st).ov b 0 (Ex.hd S.st).is false (WalkArith.wf_i64 (by omega)) (WalkArith.wf_i64 (by omega)) (WalkArith.wf_i64 (by omega)) (WalkArith.wf_i64 (by omega))
      cases his : (Ex.hd S.st).is with
      | true =>
        have e1 : Ex.pdf S = S := by rw [e0, if_neg (fun h => by rw [his] at h; cases h.1)]
        rw [e1]
        rw [his] at HL heq
        generalize (Ex.hd S.st).lv = lv at *
        generalize (Ex.hd S.st).ov = ov at *
        clear e0 e1 h hok his heq
        go_enter Tryz.func57, Tryz.ntmps57
        go_wp2_with fail
        refine HL.out.mono ?_
        rintro e w1 ⟨rfl, hb1⟩
        have HS := hide (HA.out.below hb1)
        have HB := hide (hb1.mono HA.out.size)
        clear hb1 HL HA
        go_wp2_with fail
        go_quiet (fail)
        go_wp2
        go_end0
        have hs2 := HS.out.below ((Below.alloc (Below.refl _ w1) (Nat.le_refl _) (.cells #[.int .i64 lv, .int .i64 ov, .bool true] 98)))
        exact ⟨rfl, ⟨g, cap, hs2.below (below_drewN _ _)⟩, (Below.alloc HB.out HS.out.size _).trans ((below_drewN _ nq).mono (by simp; have := HS.out.size; omega))⟩
      | false =>
        rw [his] at HL heq
        by_cases hlen : 1 < S.st.length
        · have e1 : Ex.pdf S = ⟨S.st.tail, S.oi, S.oe, S.va⟩ := by rw [e0, if_pos ⟨his, hlen⟩]
          rw [e1]
          have hm := (hok.ch.more hlen).1
          have hdec : decide ((Ex.hd S.st).lv = b ∧ (Ex.hd S.st).ov = 0 ∧ false = false) = false := decide_eq_false (fun h => by omega)
          rw [hdec] at heq
          generalize (Ex.hd S.st).lv = lv at *
          generalize (Ex.hd S.st).ov = ov at *
          clear e0 e1 h hok his hdec
          go_enter Tryz.func57, Tryz.ntmps57
          go_wp2_with fail
          refine HL.out.mono ?_
          rintro e w1 ⟨rfl, hb1⟩
          have HS := hide (fun o : Obj => (HA.out.below hb1).below ((Below.alloc (Below.refl _ w1) (Nat.le_refl _) o)))
          have HB := hide (fun o : Obj => Below.alloc (hb1.mono HA.out.size) (HA.out.below hb1).size o)
          have HD := hide (fun (o : Obj) (nq : Nat) => drop_any ((HS.out o).below (below_drewN _ nq)) hpos)
          have c0 := fun o => (HS.out o).c0
          have t0 := fun o => ((HS.out o).bot HCH.out).1
          have t1 := fun o => ((HS.out o).bot HCH.out).2.1
          have t2 := fun o => ((HS.out o).bot HCH.out).2.2
          have hpi : (0 : Int) < (S.st.length : Int) := by omega
          clear hb1 HL HA
          go_wp2_with fail
          go_quiet (fail)
          go_wp2_with (go_at_call 84; refine (HD.out _ _).mono ?_; rintro e w3 ⟨rfl, hs3, hb3⟩)
          go_end0
          exact ⟨rfl, ⟨g, cap, hs3⟩, ((HB.out _).trans ((below_drewN _ _).mono (HS.out _).size)).trans hb3⟩
        · have e1 : Ex.pdf S = S := by rw [e0, if_neg (fun h => hlen h.2)]
          rw [e1]
          have hone := hok.ch.only hlen
          have hdec : decide ((Ex.hd S.st).lv = b ∧ (Ex.hd S.st).ov = 0 ∧ false = false) = true := decide_eq_true (by rw [hone]; exact ⟨rfl, rfl, rfl⟩)
          rw [hdec] at heq
          generalize (Ex.hd S.st).lv = lv at *
          generalize (Ex.hd S.st).ov = ov at *
          clear e0 e1 h hok his hdec hone hlen
          go_enter Tryz.func57, Tryz.ntmps57
          go_wp2_with fail
          refine HL.out.mono ?_
          rintro e w1 ⟨rfl, hb1⟩
          have HS := hide (fun o : Obj => (HA.out.below hb1).below ((Below.alloc (Below.refl _ w1) (Nat.le_refl _) o)))
          have HB := hide (fun o : Obj => Below.alloc (hb1.mono HA.out.size) (HA.out.below hb1).size o)
          have c0 := fun o => (HS.out o).c0
          have t0 := fun o => ((HS.out o).bot HCH.out).1
          have t1 := fun o => ((HS.out o).bot HCH.out).2.1
          have t2 := fun o => ((HS.out o).bot HCH.out).2.2
          have hpi : (0 : Int) < (S.st.length : Int) := by omega
          clear hb1 HL HA
          go_wp2_with fail
          go_quiet (fail)
          go_wp2
          go_end0
          exact ⟨rfl, ⟨g, cap, (HS.out _).below (below_drewN _ _)⟩, (HB.out _).trans ((below_drewN _ _).mono (HS.out _).size)⟩
end Go.Proofs.YtfadjgaledddjaaGreatDoor

/- What Resolve keeps on its way; isParagraph. -/
namespace Go.Proofs.YtfadjgaledddjaaGreatDoor
open Go.RowKit
set_option linter.unusedVariables false
set_option maxHeartbeats 1000000
set_option maxRecDepth 100000
theorem isPara_any (ao : Option Addr) (n cap : Nat) (c : List Int) (w : World) (h : Row .i64 w ao n cap c) (hn : n * 8 ≤ 140737488351232) (F : Bool) (hF : F = true ↔ Ex.Formed c) :
    Calls Tryz.prog 54 #[.slice ao n cap] w fun e w' => e = .returned (.bool F) ∧ w = w' := by
  have H := hide h
  have HL := hide h.len
  have HF := hide hF
  have hn2 : n ≤ 17592186044416 := by omega
  clear h hn hF
  go_enter Tryz.func54, Tryz.ntmps54
  go_wp2
  go_loopw [7] (fun s7 wr => ∃ k : Nat, k ≤ n ∧ s7 = .int .i64 (k : Int) ∧ Hid (∀ i, i < k → 1 ≤ c.getD i 0 ∧ c.getD i 0 ≤ 23 ∧ (c.getD i 0 = 11 → i + 1 = n)) ∧ w = wr) (fun s7 _ => n - (intOf s7).toNat)
  case atStart => exact ⟨0, Nat.zero_le _, rfl, hide (fun i hi => by omega), rfl⟩
  case round =>
    obtain ⟨k, hk, rfl, hall, rfl⟩ := hrel
    by_cases hlt : k < n
    · obtain ⟨b, off, rfl, hbl, hc⟩ := H.out.cells (by omega)
      have ck : w.cell? ⟨b, off + k, none⟩ = some (.int .i64 (c.getD k 0)) := hc k (by rw [HL.out]; exact hlt)
      have hin : (k : Int) < (n : Int) := by omega
      have HNO := hide (fun (hbad : ¬ (1 ≤ c.getD k 0 ∧ c.getD k 0 ≤ 23 ∧ (c.getD k 0 = 11 → k + 1 = n))) => (show F = false from by
        cases hf : F with
        | false => rfl
        | true =>
          have h1 := HF.out.1 hf k (by rw [HL.out]; exact hlt)
          rw [HL.out] at h1
          exact absurd h1 hbad))
      have HYES := hide (fun (hgood : 1 ≤ c.getD k 0 ∧ c.getD k 0 ≤ 23 ∧ (c.getD k 0 = 11 → k + 1 = n)) => (show ∀ i, i < k + 1 → 1 ≤ c.getD i 0 ∧ c.getD i 0 ≤ 23 ∧ (c.getD i 0 = 11 → i + 1 = n) from fun i hi => by
        by_cases hik : i = k
        · subst hik; exact hgood
        · exact hall.out i (by omega)))
      generalize c.getD k 0 = x at *
      clear hc hall
      by_cases h1 : x < 1
      · have HE := hide (HNO.out (fun h => by omega))
        clear HNO HYES
        go_wp2
        go_ret
        exact ⟨ret_bool HE.out.symm, rfl⟩
      · by_cases h2 : 23 < x
        · have HE := hide (HNO.out (fun h => by omega))
          clear HNO HYES
          go_wp2
          go_ret
          exact ⟨ret_bool HE.out.symm, rfl⟩
        · by_cases h3 : x = 11
          · by_cases h4 : (k : Int) < (n : Int) - 1
            · have HE := hide (HNO.out (fun h => by have := h.2.2 h3; omega))
              clear HNO HYES
              go_wp2
              go_ret
              exact ⟨ret_bool HE.out.symm, rfl⟩
            · have HE := hide (HYES.out ⟨by omega, by omega, fun _ => by omega⟩)
              clear HNO HYES
              go_wp2
              go_roundw
              case rel => exact ⟨k + 1, by omega, by go_num, HE, trivial⟩
              case measure => simp [intOf]; omega
          · have HE := hide (HYES.out ⟨by omega, by omega, fun h => absurd h h3⟩)
            have h3' : (x == 11) = false := beq_false_of_ne h3
            clear HNO HYES
            go_wp2
            go_roundw
            case rel => exact ⟨k + 1, by omega, by go_num, HE, trivial⟩
            case measure => simp [intOf]; omega
    · obtain rfl : k = n := by omega
      have hne : ¬ ((k : Int) < (k : Int)) := by omega
      have HE := hide (show F = true from HF.out.2 (fun i hi => by rw [HL.out] at hi ⊢; exact hall.out i hi))
      clear hall
      go_wp2
      go_ret
      exact ⟨ret_bool HE.out.symm, rfl⟩
theorem made_ints (n : Nat) (hn : n * 8 ≤ 140737488351232) : ∃ cur : Array Value, cur.toList = (List.replicate n (0 : Int)).map (Value.int .i64) ∧ ∀ W : World, (Instr.makeSlice 24 (.int .i64 (n : Int)) (.int .i64 (n : Int))).run Tryz.prog W = .ok (.slice (some ⟨W.heap.size, 0, none⟩) n n) (W.alloc (.cells cur 3)) := by
  obtain ⟨ii, hii, hy0, hy1, hy2⟩ := info_parts infoInt
  refine ⟨madeCells #[.int .i64 0] n, by simp [toList_madeCells_one], fun W => ?_⟩
  have h := run_make (P := Tryz.prog) W 24 3 ii _ Tryz.underlying24 hii hy0 .i64 .i64 (n : Int) (n : Int) (by omega) (Int.le_refl _) (by rw [hy2]; omega) (by omega)
  rw [h, hy1]
  simp [Value.cells]
/-- The rows of levels and types, and Match's. -/
structure RM (w : World) (B bl bt mb n : Nat) (M L T : List Int) (wr : World) : Prop where
  ol : wr.ownsRow w.heap.size 3 1 (.slice (some ⟨bl, 0, none⟩) n n) n (L.map (Value.int .i64))
  ot : wr.ownsRow w.heap.size 3 1 (.slice (some ⟨bt, 0, none⟩) n n) n (T.map (Value.int .i64))
  om : wr.ownsRow w.heap.size 3 1 (.slice (some ⟨mb, 0, none⟩) n n) n (M.map (Value.int .i64))
  lt : bl < B ∧ bt < B ∧ mb < B
  ne : ¬ bl = bt ∧ ¬ bl = mb ∧ ¬ bt = mb
  le : w.heap.size ≤ B
  bel : Below w.heap.size w wr
theorem owns_other {w : World} {base e n cap g g' j : Nat} {xs : List Value} {v : Value} (h : w.ownsRow base e 1 (.slice (some ⟨g, 0, none⟩) n cap) n xs) (hne : ¬ g = g') : (w.setCell ⟨g', j, none⟩ v).ownsRow base e 1 (.slice (some ⟨g, 0, none⟩) n cap) n xs := by
  refine ⟨h.1, ?_⟩
  rcases h.2 with ⟨h0, _⟩ | ⟨g2, cap2, cur, hv, hbs, hg, rest⟩
  · cases h0
  · cases hv
    refine .inr ⟨g, cap, cur, rfl, hbs, ?_, rest⟩
    rw [← hg]
    have hne2 : ¬ g' = g := fun h => hne h.symm
    unfold World.setCell
    simp [Array.getElem?_modify, hne2]
section
variable {w : World} {B bl bt mb n : Nat} {M L T : List Int} {wr : World}
theorem RM.keep (h : RM w B bl bt mb n M L T wr) {w2 : World} (hb : Below B wr w2) : RM w B bl bt mb n M L T w2 :=
  ⟨owns_keep h.ol hb h.lt.1, owns_keep h.ot hb h.lt.2.1, owns_keep h.om hb h.lt.2.2, h.lt, h.ne, h.le, h.bel.trans (hb.mono h.le)⟩
theorem RM.set (h : RM w B bl bt mb n M L T wr) (k : Nat) (x y : Int) : RM w B bl bt mb n M (L.set k x) (T.set k y) ((wr.setCell ⟨bl, k, none⟩ (.int .i64 x)).setCell ⟨bt, k, none⟩ (.int .i64 y)) := by
  have hn := h.ne
  refine ⟨owns_other (owns_set h.ol k x) hn.1, owns_set (owns_other h.ot (fun h => hn.1 h.symm)) k y, owns_other (owns_other h.om (fun h => hn.2.1 h.symm)) (fun h => hn.2.2 h.symm), h.lt, h.ne, h.le, ?_⟩
  exact (h.bel.setCell (p := ⟨bl, k, none⟩) (h.ol.lt bl rfl).1 _).setCell (p := ⟨bt, k, none⟩) (h.ot.lt bt rfl).1 _
theorem RM.cl (h : RM w B bl bt mb n M L T wr) {k : Nat} (hk : k < n) : wr.cell? ⟨bl, k, none⟩ = some (.int .i64 (L.getD k 0)) ∧ wr.frozen? ⟨bl, k, none⟩ = false := ⟨owns_cell h.ol k hk, h.ol.frozenAt k⟩
theorem RM.ct (h : RM w B bl bt mb n M L T wr) {k : Nat} (hk : k < n) : wr.cell? ⟨bt, k, none⟩ = some (.int .i64 (T.getD k 0)) ∧ wr.frozen? ⟨bt, k, none⟩ = false := ⟨owns_cell h.ot k hk, h.ot.frozenAt k⟩
theorem RM.cm (h : RM w B bl bt mb n M L T wr) {k : Nat} (hk : k < n) : wr.cell? ⟨mb, k, none⟩ = some (.int .i64 (M.getD k 0)) := owns_cell h.om k hk
end
/-- What is kept behind k rounds. -/
structure RV (w : World) (B p bl bt mb n : Nat) (b : Int) (c : List Int) (k : Nat) (wr : World) : Prop where
  rm : RM w B bl bt mb n (Iso.MT c) (Ex.PL (Ex.lev b (Ex.s0 b) c) n k) (Ex.PL (Ex.typ (Ex.s0 b) c) n k) wr
  sa : ∃ g cap, SA B wr p (Ex.at' (Ex.s0 b) c k) g cap
theorem RV.next {w : World} {B p bl bt mb n : Nat} {b : Int} {c : List Int} {k : Nat} {wr wf : World} {S : Ex.St}
    (hm : RM w B bl bt mb n (Iso.MT c) ((Ex.PL (Ex.lev b (Ex.s0 b) c) n k).set k (Ex.tl b S (c.getD k 0))) ((Ex.PL (Ex.typ (Ex.s0 b) c) n k).set k (Ex.ty S (c.getD k 0))) wr)
    (hS : Ex.mid (Ex.at' (Ex.s0 b) c k) (c.getD k 0) = S) (hb : Below B wr wf) (hs : ∃ g cap, SA B wf p (Ex.at' (Ex.s0 b) c (k + 1)) g cap) : RV w B p bl bt mb n b c (k + 1) wf := by
  subst hS
  have h := hm.keep hb
  refine ⟨?_, hs⟩
  rw [Ex.PL_set, Ex.PL_set]
  exact h
end Go.Proofs.YtfadjgaledddjaaGreatDoor

/- Resolve: explicit levels and types. -/

namespace Go.Proofs.YtfadjgaledddjaaGreatDoor
open Go.RowKit
set_option linter.unusedVariables false
set_option maxHeartbeats 2000000
set_option maxRecDepth 100000
theorem resolve_arg (ao : Option Addr) (n cap : Nat) (b : Int) (w : World) (hb : ¬ b = 0 ∧ ¬ b = 1) :
    Calls Tryz.prog 29 #[.slice ao n cap, .int .i64 b] w fun e w' => e = .returned (.tuple #[.slice none 0 0, .slice none 0 0, .int .i64 2]) ∧ w = w' := by
  have h1 : (b != 0) = true := bne_iff_ne.2 hb.1
  have h2 : (b != 1) = true := bne_iff_ne.2 hb.2
  go_enter Tryz.func29, Tryz.ntmps29
  go_wp2
  go_ret3
  exact ⟨rfl, rfl⟩
theorem resolve_form (ao : Option Addr) (n cap : Nat) (c : List Int) (b : Int) (w : World) (h : Row .i64 w ao n cap c) (hn : n * 8 ≤ 140737488351232) (hb : b = 0 ∨ b = 1) (hF : ¬ Ex.Formed c) :
    Calls Tryz.prog 29 #[.slice ao n cap, .int .i64 b] w fun e w' => e = .returned (.tuple #[.slice none 0 0, .slice none 0 0, .int .i64 50]) ∧ w = w' := by
  have HP := hide (isPara_any ao n cap c w h hn false (by simp [hF]))
  clear h hn hF
  rcases hb with rfl | rfl
  all_goals
    go_enter Tryz.func29, Tryz.ntmps29
    go_wp2_with (go_at_call 54; refine HP.out.mono ?_; rintro e w' ⟨rfl, rfl⟩)
    go_ret3
    exact ⟨rfl, rfl⟩
theorem build_bot (l : Int) (w : World) : (Instr.build 98 #[(0, .int .i64 l)]).run Tryz.prog w = .ok (.agg #[.int .i64 l, .int .i64 0, .bool false]) w := run_build w 98 _ _ (by kernel_rfl)
theorem build_stack (v : Option Addr) (n cap : Nat) (w : World) : (Instr.build 101 #[(0, .slice v n cap)]).run Tryz.prog w = .ok (.agg #[.slice v n cap, .int .i64 0, .int .i64 0, .int .i64 0]) w := run_build w 101 _ _ (by kernel_rfl)
/-- The stack as Resolve begins it. -/
theorem sa_begin (w : World) (b : Int) (B : Nat) (hB : w.heap.size = B) : SA B ((w.alloc (.cells #[.int .i64 b, .int .i64 0, .bool false] 98)).alloc (.cells #[.slice (some ⟨B, 0, none⟩) 1 1, .int .i64 0, .int .i64 0, .int .i64 0] 101)) (B + 1) (Ex.s0 b) B 1 := by
  subst hB
  have h1 : (w.alloc (.cells #[.int .i64 b, .int .i64 0, .bool false] 98)).heap.size = w.heap.size + 1 := by simp
  refine ⟨by omega, ?_, ?_, by omega⟩
  · have := heap_alloc_last (w.alloc (.cells #[.int .i64 b, .int .i64 0, .bool false] 98)) (.cells #[.slice (some ⟨w.heap.size, 0, none⟩) 1 1, .int .i64 0, .int .i64 0, .int .i64 0] 101)
    rw [h1] at this
    exact this
  · refine ⟨rfl, .inr ⟨w.heap.size, 1, #[.int .i64 b, .int .i64 0, .bool false], rfl, Nat.le_refl _, ?_, Nat.le_refl _, by unfold maxLen; omega, rfl, by simp [Ex.s0, Ex.bot, ents, ec]⟩⟩
    have hb := (Below.alloc (Below.refl (w.heap.size + 1) (w.alloc (.cells #[.int .i64 b, .int .i64 0, .bool false] 98))) (by omega) (.cells #[.slice (some ⟨w.heap.size, 0, none⟩) 1 1, .int .i64 0, .int .i64 0, .int .i64 0] 101)).block w.heap.size (by omega)
    exact hb.trans (heap_alloc_last w _)
theorem mid_other {S : Ex.St} {x : Int} (h : ¬ x = 17 ∧ ¬ x = 15 ∧ ¬ x = 18 ∧ ¬ x = 16 ∧ ¬ x = 19 ∧ ¬ x = 23) : Ex.mid S x = S := by
  have he : Ex.em x = false := by unfold Ex.em; simp [h]
  unfold Ex.mid
  rw [he, if_neg (by decide), if_neg h.2.2.2.2.1, if_neg h.2.2.2.2.2]
theorem step_other {S : Ex.St} {x : Int} {r : List Int} (h : ¬ x = 17 ∧ ¬ x = 15 ∧ ¬ x = 18 ∧ ¬ x = 16 ∧ ¬ x = 19 ∧ ¬ x = 23) (h2 : ¬ x = 20 ∧ ¬ x = 21 ∧ ¬ x = 22) : Ex.step S x r = S := by
  have hs : Iso.st x = false := by unfold Iso.st; simp [h2]
  unfold Ex.step
  rw [hs, mid_other h]
  rfl
theorem resolve_own (ao : Option Addr) (n cap0 : Nat) (c : List Int) (b : Int) (w : World) (h : Row .i64 w ao n cap0 c) (hn : n * 8 ≤ 140737488351232) (hb : b = 0 ∨ b = 1) (hF : Ex.Formed c) :
    Calls Tryz.prog 29 #[.slice ao n cap0, .int .i64 b] w fun e w' => ∃ bl bt, e = .returned (.tuple #[.slice (some ⟨bl, 0, none⟩) n n, .slice (some ⟨bt, 0, none⟩) n n, .int .i64 0]) ∧ w'.ownsRow w.heap.size 3 1 (.slice (some ⟨bl, 0, none⟩) n n) n ((Ex.LV b c).map (Value.int .i64)) ∧ w'.ownsRow w.heap.size 3 1 (.slice (some ⟨bt, 0, none⟩) n n) n ((Ex.TY b c).map (Value.int .i64)) ∧ ¬ bl = bt ∧ Below w.heap.size w w' := by
  have HP := hide (isPara_any ao n cap0 c w h hn true (by simp [hF]))
  have HM := hide (match_any ao n cap0 c w h hn)
  obtain ⟨cur, hcur, hmk⟩ := made_ints n hn
  have HCU := hide hcur
  have H := hide h
  have HL := hide h.len
  have hn2 : n ≤ 17592186044416 := by omega
  have HN := hide hn
  have hb0 : 0 ≤ b := by omega
  have hb1' : b ≤ 1 := by omega
  have hbd := build_bot
  have hbo := build_ent1
  have hbs := build_stack
  have hbb : b = 0 ∨ (¬ b = 0 ∧ b = 1) := by omega
  clear h hn hF hcur hb
  go_enter Tryz.func29, Tryz.ntmps29
  go_upto_region 1 with fail
  go_cut [16] from 11 to 16 (fun s16 wx => s16 = .bool false ∧ w = wx)
  case first =>
    rcases hbb with rfl | ⟨h1, rfl⟩
    all_goals
      go_wp2
      go_meet
      exact ⟨rfl, rfl⟩
  obtain ⟨rfl, rfl⟩ := hcut
  clear hbb
  go_upto_region 6 with (first
    | (go_at_call 54; refine HP.out.mono ?_; rintro e w' ⟨rfl, rfl⟩)
    | (go_at_call 55; refine HM.out.mono ?_; rintro e w1 ⟨rfl, ho1, hb1⟩))
  go_cut [4, 5] from 22 to 27 (fun s4 s5 wx => ∃ bl bt : Nat, s4 = .slice (some ⟨bl, 0, none⟩) n n ∧ s5 = .slice (some ⟨bt, 0, none⟩) n n ∧ wx.heap.size = w1.heap.size + 2 ∧ Below w1.heap.size w1 wx ∧ ((bl = w1.heap.size ∧ bt = w1.heap.size + 1) ∨ (bt = w1.heap.size ∧ bl = w1.heap.size + 1)) ∧ wx.heap[bl]? = some (.cells cur 3 (0, 0)) ∧ wx.heap[bt]? = some (.cells cur 3 (0, 0)))
  case first =>
    go_region
    · go_wp2
      go_meet
      refine ⟨_, _, rfl, rfl, by simp, ((Below.refl _ w1).alloc (Nat.le_refl _) _).alloc (by simp) _ |>.drew, .inl ⟨rfl, rfl⟩, ?_, ?_⟩
      · exact heap_alloc2_old w1 _ _
      · exact heap_alloc2_new w1 _ _
    · go_wp2
      go_meet
      refine ⟨_, _, rfl, rfl, by simp, ((Below.refl _ w1).alloc (Nat.le_refl _) _).alloc (by simp) _ |>.drew, .inr ⟨rfl, rfl⟩, ?_, ?_⟩
      · exact heap_alloc2_new w1 _ _
      · exact heap_alloc2_old w1 _ _
  obtain ⟨bl, bt, rfl, rfl, hsz, hbw, hbb, hgl, hgt⟩ := hcut
  obtain ⟨B, hB⟩ : ∃ B, wc.heap.size = B := ⟨_, rfl⟩
  have hsa := sa_begin wc b B hB
  have hw1 := hb1.size
  have hwb : w.heap.size < w1.heap.size := (ho1.lt w.heap.size rfl).2
  have hrm : RM w B bl bt w.heap.size n (Iso.MT c) (Ex.PL (Ex.lev b (Ex.s0 b) c) n 0) (Ex.PL (Ex.typ (Ex.s0 b) c) n 0) wc := by
    rw [Ex.PL_zero, Ex.PL_zero]
    refine ⟨owns_block hgl HCU.out (by simp) (by unfold maxLen; omega) (by omega), owns_block hgt HCU.out (by simp) (by unfold maxLen; omega) (by omega), owns_below ho1 hbw, by omega, by omega, by omega, hb1.trans (hbw.mono hw1)⟩
  have HO : Hid (RV w B (B + 1) bl bt w.heap.size n b c 0 ((wc.alloc (.cells #[.int .i64 b, .int .i64 0, .bool false] 98)).alloc (.cells #[.slice (some ⟨B, 0, none⟩) 1 1, .int .i64 0, .int .i64 0, .int .i64 0] 101))) := by
    refine ⟨hrm.keep ?_, ⟨B, 1, hsa⟩⟩
    exact ((Below.refl B wc).alloc (by omega) _).alloc (by simp; omega) _
  clear hsa hrm hgl hgt hbw hw1 hwb ho1 hb1 hbb hsz
  subst hB
  go_wp2_with fail
  generalize wc.heap.size = B at *
  go_loopw [35] (fun s35 wr => ∃ k : Nat, k ≤ n ∧ s35 = .int .i64 (k : Int) ∧ Hid (RV w B (B + 1) bl bt w.heap.size n b c k wr)) (fun s35 _ => n - (intOf s35).toNat)
  case atStart => exact ⟨0, Nat.zero_le _, rfl, HO⟩
  case round =>
    clear HO
    obtain ⟨k, hk, rfl, hv⟩ := hrel
    by_cases hlt : k < n
    · have hkl : k < c.length := by rw [HL.out]; exact hlt
      obtain ⟨cb, off, rfl, hbl, hc⟩ := H.out.cells (by omega)
      have ck : wr.cell? ⟨cb, off + k, none⟩ = some (.int .i64 (c.getD k 0)) := (hv.out.rm.bel.cell (by exact hbl)).trans (hc k hkl)
      have hin : (k : Int) < (n : Int) := by omega
      obtain ⟨g, cap, hsa⟩ := hv.out.sa
      have hok : Ex.Ok b (Ex.at' (Ex.s0 b) c k) k := Ex.Ok.at c k
      have hokm := hok.mid (c.getD k 0)
      have hst : Ex.at' (Ex.s0 b) c (k + 1) = Ex.step (Ex.at' (Ex.s0 b) c k) (c.getD k 0) (c.drop (k + 1)) := rfl
      have HNX := hide (fun (S : Ex.St) (w2 wf : World) hm hS hb hs => RV.next (w := w) (B := B) (p := B + 1) (bl := bl) (bt := bt) (mb := w.heap.size) (n := n) (b := b) (c := c) (k := k) (S := S) (wr := w2) (wf := wf) hm hS hb hs)
      rw [hst] at HNX
      have HRM := hide hv.out.rm
      have HSA := hide hsa
      have hlts := HRM.out.lt
      have hnes := HRM.out.ne
      have hmt : Iso.st (c.getD k 0) = true → (Iso.MT c).getD k 0 = (Iso.partner c k : Int) := fun hs => by rw [Iso.MT_at c k hkl]; unfold Iso.mt; rw [if_pos hs]
      generalize Ex.at' (Ex.s0 b) c k = S at *
      generalize Ex.PL (Ex.lev b (Ex.s0 b) c) n k = PLk at *
      generalize Ex.PL (Ex.typ (Ex.s0 b) c) n k = PTk at *
      generalize hxx : c.getD k 0 = x at *
      have HRW := hide (fun (w' : World) (hb : Below w.heap.size w w') => H.out.below hb)
      have HXX := hide hxx
      clear hst hv hc hkl hsa hxx
      by_cases h17 : x = 17
      · subst h17
        have HMID := hide (show Ex.mid S 17 = Ex.emb S 17 from rfl)
        have HSTEP := hide (show Ex.step S 17 (c.drop (k + 1)) = Ex.emb S 17 from rfl)
        rw [HMID.out] at hokm
        have H1 := hide (embed_any HSA.out hok hb0 hb1' (by omega) 17)
        generalize hM : Ex.emb S 17 = M at *
        go_wp2_with fail
        refine H1.out.mono ?_
        rintro e w1 ⟨rfl, ⟨g1, cap1, hs1⟩, hb1⟩
        have hm1 := HRM.out.keep hb1
        clear H1 hb1 HRM HSA
        have HT := hide (tell_any hs1 hokm.ch 17)
        have HM1 := hide hm1
        have HS1 := hide hs1
        clear hs1 hm1
        go_wp2_with fail
        refine HT.out.mono ?_
        rintro e w2 ⟨rfl, hb2⟩
        have hb2B : Below B w1 w2 := hb2.mono HS1.out.size
        have hm2 := HM1.out.keep hb2B
        have hs2 := HS1.out.below hb2
        obtain ⟨cl, fl⟩ := hm2.cl hlt
        obtain ⟨ct, ft⟩ := hm2.ct hlt
        have HM3 := hide (hm2.set k (Ex.tl b M 17) (Ex.ty M 17))
        have HS3 := hide ((hs2.setLow (a := ⟨bl, k, none⟩) hlts.1 (.int .i64 (Ex.tl b M 17))).setLow (a := ⟨bt, k, none⟩) hlts.2.1 (.int .i64 (Ex.ty M 17)))
        obtain ⟨W3, hW3⟩ : ∃ W3, (w2.setCell ⟨bl, k, none⟩ (.int .i64 (Ex.tl b M 17))).setCell ⟨bt, k, none⟩ (.int .i64 (Ex.ty M 17)) = W3 := ⟨_, rfl⟩
        rw [hW3] at HM3 HS3
        have HNM := hide (HNX.out M)
        clear HNX
        generalize Ex.tl b M 17 = tlv at *
        generalize Ex.ty M 17 = tyv at *
        have HF := hide (HNM.out W3 W3 HM3.out HMID.out (Below.refl _ _) ⟨g1, cap1, by rw [HSTEP.out]; exact HS3.out⟩)
        clear hm2 hs2 hb2 hb2B HM1 HS1 HT HM3 HS3 HNM
        go_wp2
        go_roundw
        case rel => exact ⟨k + 1, by omega, by go_num, HF⟩
        case measure => simp [intOf]; omega
      by_cases h15 : x = 15
      · subst h15
        have HMID := hide (show Ex.mid S 15 = Ex.emb S 15 from rfl)
        have HSTEP := hide (show Ex.step S 15 (c.drop (k + 1)) = Ex.emb S 15 from rfl)
        rw [HMID.out] at hokm
        have H1 := hide (embed_any HSA.out hok hb0 hb1' (by omega) 15)
        generalize hM : Ex.emb S 15 = M at *
        go_wp2_with fail
        refine H1.out.mono ?_
        rintro e w1 ⟨rfl, ⟨g1, cap1, hs1⟩, hb1⟩
        have hm1 := HRM.out.keep hb1
        clear H1 hb1 HRM HSA
        have HT := hide (tell_any hs1 hokm.ch 15)
        have HM1 := hide hm1
        have HS1 := hide hs1
        clear hs1 hm1
        go_wp2_with fail
        refine HT.out.mono ?_
        rintro e w2 ⟨rfl, hb2⟩
        have hb2B : Below B w1 w2 := hb2.mono HS1.out.size
        have hm2 := HM1.out.keep hb2B
        have hs2 := HS1.out.below hb2
        obtain ⟨cl, fl⟩ := hm2.cl hlt
        obtain ⟨ct, ft⟩ := hm2.ct hlt
        have HM3 := hide (hm2.set k (Ex.tl b M 15) (Ex.ty M 15))
        have HS3 := hide ((hs2.setLow (a := ⟨bl, k, none⟩) hlts.1 (.int .i64 (Ex.tl b M 15))).setLow (a := ⟨bt, k, none⟩) hlts.2.1 (.int .i64 (Ex.ty M 15)))
        obtain ⟨W3, hW3⟩ : ∃ W3, (w2.setCell ⟨bl, k, none⟩ (.int .i64 (Ex.tl b M 15))).setCell ⟨bt, k, none⟩ (.int .i64 (Ex.ty M 15)) = W3 := ⟨_, rfl⟩
        rw [hW3] at HM3 HS3
        have HNM := hide (HNX.out M)
        clear HNX
        generalize Ex.tl b M 15 = tlv at *
        generalize Ex.ty M 15 = tyv at *
        have HF := hide (HNM.out W3 W3 HM3.out HMID.out (Below.refl _ _) ⟨g1, cap1, by rw [HSTEP.out]; exact HS3.out⟩)
        clear hm2 hs2 hb2 hb2B HM1 HS1 HT HM3 HS3 HNM
        go_wp2
        go_roundw
        case rel => exact ⟨k + 1, by omega, by go_num, HF⟩
        case measure => simp [intOf]; omega
      by_cases h18 : x = 18
      · subst h18
        have HMID := hide (show Ex.mid S 18 = Ex.emb S 18 from rfl)
        have HSTEP := hide (show Ex.step S 18 (c.drop (k + 1)) = Ex.emb S 18 from rfl)
        rw [HMID.out] at hokm
        have H1 := hide (embed_any HSA.out hok hb0 hb1' (by omega) 18)
        generalize hM : Ex.emb S 18 = M at *
        go_wp2_with fail
        refine H1.out.mono ?_
        rintro e w1 ⟨rfl, ⟨g1, cap1, hs1⟩, hb1⟩
        have hm1 := HRM.out.keep hb1
        clear H1 hb1 HRM HSA
        have HT := hide (tell_any hs1 hokm.ch 18)
        have HM1 := hide hm1
        have HS1 := hide hs1
        clear hs1 hm1
        go_wp2_with fail
        refine HT.out.mono ?_
        rintro e w2 ⟨rfl, hb2⟩
        have hb2B : Below B w1 w2 := hb2.mono HS1.out.size
        have hm2 := HM1.out.keep hb2B
        have hs2 := HS1.out.below hb2
        obtain ⟨cl, fl⟩ := hm2.cl hlt
        obtain ⟨ct, ft⟩ := hm2.ct hlt
        have HM3 := hide (hm2.set k (Ex.tl b M 18) (Ex.ty M 18))
        have HS3 := hide ((hs2.setLow (a := ⟨bl, k, none⟩) hlts.1 (.int .i64 (Ex.tl b M 18))).setLow (a := ⟨bt, k, none⟩) hlts.2.1 (.int .i64 (Ex.ty M 18)))
        obtain ⟨W3, hW3⟩ : ∃ W3, (w2.setCell ⟨bl, k, none⟩ (.int .i64 (Ex.tl b M 18))).setCell ⟨bt, k, none⟩ (.int .i64 (Ex.ty M 18)) = W3 := ⟨_, rfl⟩
        rw [hW3] at HM3 HS3
        have HNM := hide (HNX.out M)
        clear HNX
        generalize Ex.tl b M 18 = tlv at *
        generalize Ex.ty M 18 = tyv at *
        have HF := hide (HNM.out W3 W3 HM3.out HMID.out (Below.refl _ _) ⟨g1, cap1, by rw [HSTEP.out]; exact HS3.out⟩)
        clear hm2 hs2 hb2 hb2B HM1 HS1 HT HM3 HS3 HNM
        go_wp2
        go_roundw
        case rel => exact ⟨k + 1, by omega, by go_num, HF⟩
        case measure => simp [intOf]; omega
      by_cases h16 : x = 16
      · subst h16
        have HMID := hide (show Ex.mid S 16 = Ex.emb S 16 from rfl)
        have HSTEP := hide (show Ex.step S 16 (c.drop (k + 1)) = Ex.emb S 16 from rfl)
        rw [HMID.out] at hokm
        have H1 := hide (embed_any HSA.out hok hb0 hb1' (by omega) 16)
        generalize hM : Ex.emb S 16 = M at *
        go_wp2_with fail
        refine H1.out.mono ?_
        rintro e w1 ⟨rfl, ⟨g1, cap1, hs1⟩, hb1⟩
        have hm1 := HRM.out.keep hb1
        clear H1 hb1 HRM HSA
        have HT := hide (tell_any hs1 hokm.ch 16)
        have HM1 := hide hm1
        have HS1 := hide hs1
        clear hs1 hm1
        go_wp2_with fail
        refine HT.out.mono ?_
        rintro e w2 ⟨rfl, hb2⟩
        have hb2B : Below B w1 w2 := hb2.mono HS1.out.size
        have hm2 := HM1.out.keep hb2B
        have hs2 := HS1.out.below hb2
        obtain ⟨cl, fl⟩ := hm2.cl hlt
        obtain ⟨ct, ft⟩ := hm2.ct hlt
        have HM3 := hide (hm2.set k (Ex.tl b M 16) (Ex.ty M 16))
        have HS3 := hide ((hs2.setLow (a := ⟨bl, k, none⟩) hlts.1 (.int .i64 (Ex.tl b M 16))).setLow (a := ⟨bt, k, none⟩) hlts.2.1 (.int .i64 (Ex.ty M 16)))
        obtain ⟨W3, hW3⟩ : ∃ W3, (w2.setCell ⟨bl, k, none⟩ (.int .i64 (Ex.tl b M 16))).setCell ⟨bt, k, none⟩ (.int .i64 (Ex.ty M 16)) = W3 := ⟨_, rfl⟩
        rw [hW3] at HM3 HS3
        have HNM := hide (HNX.out M)
        clear HNX
        generalize Ex.tl b M 16 = tlv at *
        generalize Ex.ty M 16 = tyv at *
        have HF := hide (HNM.out W3 W3 HM3.out HMID.out (Below.refl _ _) ⟨g1, cap1, by rw [HSTEP.out]; exact HS3.out⟩)
        clear hm2 hs2 hb2 hb2B HM1 HS1 HT HM3 HS3 HNM
        go_wp2
        go_roundw
        case rel => exact ⟨k + 1, by omega, by go_num, HF⟩
        case measure => simp [intOf]; omega
      by_cases h19 : x = 19
      · subst h19
        have HMID := hide (show Ex.mid S 19 = Ex.pdf S from rfl)
        have HSTEP := hide (show Ex.step S 19 (c.drop (k + 1)) = Ex.pdf S from rfl)
        rw [HMID.out] at hokm
        have H1 := hide (endEmbedding_any HSA.out hok hb0 hb1' (by omega))
        generalize hM : Ex.pdf S = M at *
        go_wp2_with fail
        refine H1.out.mono ?_
        rintro e w1 ⟨rfl, ⟨g1, cap1, hs1⟩, hb1⟩
        have hm1 := HRM.out.keep hb1
        clear H1 hb1 HRM HSA
        have HT := hide (tell_any hs1 hokm.ch 19)
        have HM1 := hide hm1
        have HS1 := hide hs1
        clear hs1 hm1
        go_wp2_with fail
        refine HT.out.mono ?_
        rintro e w2 ⟨rfl, hb2⟩
        have hb2B : Below B w1 w2 := hb2.mono HS1.out.size
        have hm2 := HM1.out.keep hb2B
        have hs2 := HS1.out.below hb2
        obtain ⟨cl, fl⟩ := hm2.cl hlt
        obtain ⟨ct, ft⟩ := hm2.ct hlt
        have HM3 := hide (hm2.set k (Ex.tl b M 19) (Ex.ty M 19))
        have HS3 := hide ((hs2.setLow (a := ⟨bl, k, none⟩) hlts.1 (.int .i64 (Ex.tl b M 19))).setLow (a := ⟨bt, k, none⟩) hlts.2.1 (.int .i64 (Ex.ty M 19)))
        obtain ⟨W3, hW3⟩ : ∃ W3, (w2.setCell ⟨bl, k, none⟩ (.int .i64 (Ex.tl b M 19))).setCell ⟨bt, k, none⟩ (.int .i64 (Ex.ty M 19)) = W3 := ⟨_, rfl⟩
        rw [hW3] at HM3 HS3
        have HNM := hide (HNX.out M)
        clear HNX
        generalize Ex.tl b M 19 = tlv at *
        generalize Ex.ty M 19 = tyv at *
        have HF := hide (HNM.out W3 W3 HM3.out HMID.out (Below.refl _ _) ⟨g1, cap1, by rw [HSTEP.out]; exact HS3.out⟩)
        clear hm2 hs2 hb2 hb2B HM1 HS1 HT HM3 HS3 HNM
        go_wp2
        go_roundw
        case rel => exact ⟨k + 1, by omega, by go_num, HF⟩
        case measure => simp [intOf]; omega
      by_cases h23 : x = 23
      · subst h23
        have HMID := hide (show Ex.mid S 23 = Ex.pdi S from rfl)
        have HSTEP := hide (show Ex.step S 23 (c.drop (k + 1)) = Ex.pdi S from rfl)
        rw [HMID.out] at hokm
        have H1 := hide (endIsolate_any HSA.out hok hb0 hb1' (by omega))
        generalize hM : Ex.pdi S = M at *
        go_wp2_with fail
        refine H1.out.mono ?_
        rintro e w1 ⟨rfl, ⟨g1, cap1, hs1⟩, hb1⟩
        have hm1 := HRM.out.keep hb1
        clear H1 hb1 HRM HSA
        have HT := hide (tell_any hs1 hokm.ch 23)
        have HM1 := hide hm1
        have HS1 := hide hs1
        clear hs1 hm1
        go_wp2_with fail
        refine HT.out.mono ?_
        rintro e w2 ⟨rfl, hb2⟩
        have hb2B : Below B w1 w2 := hb2.mono HS1.out.size
        have hm2 := HM1.out.keep hb2B
        have hs2 := HS1.out.below hb2
        obtain ⟨cl, fl⟩ := hm2.cl hlt
        obtain ⟨ct, ft⟩ := hm2.ct hlt
        have HM3 := hide (hm2.set k (Ex.tl b M 23) (Ex.ty M 23))
        have HS3 := hide ((hs2.setLow (a := ⟨bl, k, none⟩) hlts.1 (.int .i64 (Ex.tl b M 23))).setLow (a := ⟨bt, k, none⟩) hlts.2.1 (.int .i64 (Ex.ty M 23)))
        obtain ⟨W3, hW3⟩ : ∃ W3, (w2.setCell ⟨bl, k, none⟩ (.int .i64 (Ex.tl b M 23))).setCell ⟨bt, k, none⟩ (.int .i64 (Ex.ty M 23)) = W3 := ⟨_, rfl⟩
        rw [hW3] at HM3 HS3
        have HNM := hide (HNX.out M)
        clear HNX
        generalize Ex.tl b M 23 = tlv at *
        generalize Ex.ty M 23 = tyv at *
        have HF := hide (HNM.out W3 W3 HM3.out HMID.out (Below.refl _ _) ⟨g1, cap1, by rw [HSTEP.out]; exact HS3.out⟩)
        clear hm2 hs2 hb2 hb2B HM1 HS1 HT HM3 HS3 HNM
        go_wp2
        go_roundw
        case rel => exact ⟨k + 1, by omega, by go_num, HF⟩
        case measure => simp [intOf]; omega
      by_cases h21 : x = 21
      · subst h21
        have HMID := hide (show Ex.mid S 21 = S from rfl)
        have HSTEP := hide (show Ex.step S 21 (c.drop (k + 1)) = Ex.iso S (Ex.odd 21) from rfl)
        rw [HMID.out] at hokm
        obtain ⟨w1, hw1⟩ : ∃ w1, wr = w1 := ⟨_, rfl⟩
        have hs1 := HSA.out
        have hm1 := HRM.out
        subst hw1
        have HT := hide (tell_any hs1 hokm.ch 21)
        have HM1 := hide hm1
        have HS1 := hide hs1
        clear hs1 hm1
        go_wp2_with fail
        refine HT.out.mono ?_
        rintro e w2 ⟨rfl, hb2⟩
        have hb2B : Below B wr w2 := hb2.mono HS1.out.size
        have hm2 := HM1.out.keep hb2B
        have hs2 := HS1.out.below hb2
        obtain ⟨cl, fl⟩ := hm2.cl hlt
        obtain ⟨ct, ft⟩ := hm2.ct hlt
        have HM3 := hide (hm2.set k (Ex.tl b S 21) (Ex.ty S 21))
        have HS3 := hide ((hs2.setLow (a := ⟨bl, k, none⟩) hlts.1 (.int .i64 (Ex.tl b S 21))).setLow (a := ⟨bt, k, none⟩) hlts.2.1 (.int .i64 (Ex.ty S 21)))
        obtain ⟨W3, hW3⟩ : ∃ W3, (w2.setCell ⟨bl, k, none⟩ (.int .i64 (Ex.tl b S 21))).setCell ⟨bt, k, none⟩ (.int .i64 (Ex.ty S 21)) = W3 := ⟨_, rfl⟩
        rw [hW3] at HM3 HS3
        have HNM := hide (HNX.out S)
        clear HNX
        generalize Ex.tl b S 21 = tlv at *
        generalize Ex.ty S 21 = tyv at *
        have HI := hide (isolate_any HS3.out (hokm) hb0 hb1' (by omega) 21)
        clear hm2 hs2 hb2 hb2B HM1 HS1 HT
        go_wp2_with fail
        refine HI.out.mono ?_
        rintro e w4 ⟨rfl, ⟨g4, cap4, hs4⟩, hb4⟩
        have HF := hide (HNM.out W3 w4 HM3.out HMID.out hb4 ⟨g4, cap4, by rw [HSTEP.out]; exact hs4⟩)
        clear hs4 hb4 HM3 HS3 HNM HI cl ct fl ft hW3
        go_wp2
        go_roundw
        case rel => exact ⟨k + 1, by omega, by go_num, HF⟩
        case measure => simp [intOf]; omega
      by_cases h20 : x = 20
      · subst h20
        have HMID := hide (show Ex.mid S 20 = S from rfl)
        have HSTEP := hide (show Ex.step S 20 (c.drop (k + 1)) = Ex.iso S (Ex.odd 20) from rfl)
        rw [HMID.out] at hokm
        obtain ⟨w1, hw1⟩ : ∃ w1, wr = w1 := ⟨_, rfl⟩
        have hs1 := HSA.out
        have hm1 := HRM.out
        subst hw1
        have HT := hide (tell_any hs1 hokm.ch 20)
        have HM1 := hide hm1
        have HS1 := hide hs1
        clear hs1 hm1
        go_wp2_with fail
        refine HT.out.mono ?_
        rintro e w2 ⟨rfl, hb2⟩
        have hb2B : Below B wr w2 := hb2.mono HS1.out.size
        have hm2 := HM1.out.keep hb2B
        have hs2 := HS1.out.below hb2
        obtain ⟨cl, fl⟩ := hm2.cl hlt
        obtain ⟨ct, ft⟩ := hm2.ct hlt
        have HM3 := hide (hm2.set k (Ex.tl b S 20) (Ex.ty S 20))
        have HS3 := hide ((hs2.setLow (a := ⟨bl, k, none⟩) hlts.1 (.int .i64 (Ex.tl b S 20))).setLow (a := ⟨bt, k, none⟩) hlts.2.1 (.int .i64 (Ex.ty S 20)))
        obtain ⟨W3, hW3⟩ : ∃ W3, (w2.setCell ⟨bl, k, none⟩ (.int .i64 (Ex.tl b S 20))).setCell ⟨bt, k, none⟩ (.int .i64 (Ex.ty S 20)) = W3 := ⟨_, rfl⟩
        rw [hW3] at HM3 HS3
        have HNM := hide (HNX.out S)
        clear HNX
        generalize Ex.tl b S 20 = tlv at *
        generalize Ex.ty S 20 = tyv at *
        have HI := hide (isolate_any HS3.out (hokm) hb0 hb1' (by omega) 20)
        clear hm2 hs2 hb2 hb2B HM1 HS1 HT
        go_wp2_with fail
        refine HI.out.mono ?_
        rintro e w4 ⟨rfl, ⟨g4, cap4, hs4⟩, hb4⟩
        have HF := hide (HNM.out W3 w4 HM3.out HMID.out hb4 ⟨g4, cap4, by rw [HSTEP.out]; exact hs4⟩)
        clear hs4 hb4 HM3 HS3 HNM HI cl ct fl ft hW3
        go_wp2
        go_roundw
        case rel => exact ⟨k + 1, by omega, by go_num, HF⟩
        case measure => simp [intOf]; omega
      by_cases h22 : x = 22
      · subst h22
        have HMID := hide (show Ex.mid S 22 = S from rfl)
        have HSTEP := hide (show Ex.step S 22 (c.drop (k + 1)) = Ex.iso S (Ex.fs 0 (c.drop (k + 1)) == 1) from rfl)
        rw [HMID.out] at hokm
        obtain ⟨w1, hw1⟩ : ∃ w1, wr = w1 := ⟨_, rfl⟩
        have hs1 := HSA.out
        have hm1 := HRM.out
        subst hw1
        have HT := hide (tell_any hs1 hokm.ch 22)
        have HM1 := hide hm1
        have HS1 := hide hs1
        clear hs1 hm1
        go_wp2_with fail
        refine HT.out.mono ?_
        rintro e w2 ⟨rfl, hb2⟩
        have hb2B : Below B wr w2 := hb2.mono HS1.out.size
        have hm2 := HM1.out.keep hb2B
        have hs2 := HS1.out.below hb2
        obtain ⟨cl, fl⟩ := hm2.cl hlt
        obtain ⟨ct, ft⟩ := hm2.ct hlt
        have HM3 := hide (hm2.set k (Ex.tl b S 22) (Ex.ty S 22))
        have HS3 := hide ((hs2.setLow (a := ⟨bl, k, none⟩) hlts.1 (.int .i64 (Ex.tl b S 22))).setLow (a := ⟨bt, k, none⟩) hlts.2.1 (.int .i64 (Ex.ty S 22)))
        obtain ⟨W3, hW3⟩ : ∃ W3, (w2.setCell ⟨bl, k, none⟩ (.int .i64 (Ex.tl b S 22))).setCell ⟨bt, k, none⟩ (.int .i64 (Ex.ty S 22)) = W3 := ⟨_, rfl⟩
        rw [hW3] at HM3 HS3
        have HNM := hide (HNX.out S)
        clear HNX
        generalize Ex.tl b S 22 = tlv at *
        generalize Ex.ty S 22 = tyv at *
        have HTA := hide (takenAs_any HS3.out hokm.ch.pos _ n cap0 c (HRW.out _ HM3.out.bel) HN.out k hlt)
        have cm := HM3.out.cm hlt
        rw [hmt rfl] at cm
        generalize Iso.partner c k = q at *
        have e1 : ((k + 1 : Nat) : Int) = (k : Int) + 1 := by omega
        rw [e1] at HTA
        clear hm2 hs2 hb2 hb2B HM1 HS1 HT
        go_wp2_with fail
        refine HTA.out.mono ?_
        rintro e w4 ⟨⟨y, rfl, hy⟩, hb4⟩
        have hs4 := HS3.out.below hb4
        have HI := hide (isolate_any hs4 hokm hb0 hb1' (by omega) y)
        have hb4B : Below B W3 w4 := hb4.mono HS3.out.size
        have HY := hide hy
        clear hs4 hb4 hy
        go_wp2_with fail
        refine HI.out.mono ?_
        rintro e w5 ⟨rfl, ⟨g5, cap5, hs5⟩, hb5⟩
        have HF := hide (HNM.out W3 w5 HM3.out HMID.out (hb4B.trans hb5) ⟨g5, cap5, by rw [HSTEP.out, ← HY.out]; exact hs5⟩)
        clear hs5 hb5 hb4B HM3 HS3 HNM HI cl ct fl ft cm hW3
        go_wp2
        go_roundw
        case rel => exact ⟨k + 1, by omega, by go_num, HF⟩
        case measure => simp [intOf]; omega
      have hoth : ¬ x = 17 ∧ ¬ x = 15 ∧ ¬ x = 18 ∧ ¬ x = 16 ∧ ¬ x = 19 ∧ ¬ x = 23 := ⟨h17, h15, h18, h16, h19, h23⟩
      have HMID := hide (show Ex.mid S x = S from mid_other hoth)
      have HSTEP := hide (show Ex.step S x (c.drop (k + 1)) = S from step_other hoth ⟨h20, h21, h22⟩)
      rw [HMID.out] at hokm
      have hs1 := HSA.out
      have hm1 := HRM.out
      have q17 : (x == 17) = false := beq_false_of_ne h17
      have q15 : (x == 15) = false := beq_false_of_ne h15
      have q18 : (x == 18) = false := beq_false_of_ne h18
      have q16 : (x == 16) = false := beq_false_of_ne h16
      have q19 : (x == 19) = false := beq_false_of_ne h19
      have q23 : (x == 23) = false := beq_false_of_ne h23
      have q21 : (x == 21) = false := beq_false_of_ne h21
      have q20 : (x == 20) = false := beq_false_of_ne h20
      have q22 : (x == 22) = false := beq_false_of_ne h22
      clear hoth h17 h15 h18 h16 h19 h23 h21 h20 h22
      have HT := hide (tell_any hs1 hokm.ch x)
      have HM1 := hide hm1
      have HS1 := hide hs1
      clear hs1 hm1
      go_wp2_with fail
      refine HT.out.mono ?_
      rintro e w2 ⟨rfl, hb2⟩
      have hb2B : Below B wr w2 := hb2.mono HS1.out.size
      have hm2 := HM1.out.keep hb2B
      have hs2 := HS1.out.below hb2
      obtain ⟨cl, fl⟩ := hm2.cl hlt
      obtain ⟨ct, ft⟩ := hm2.ct hlt
      have HM3 := hide (hm2.set k (Ex.tl b S x) (Ex.ty S x))
      have HS3 := hide ((hs2.setLow (a := ⟨bl, k, none⟩) hlts.1 (.int .i64 (Ex.tl b S x))).setLow (a := ⟨bt, k, none⟩) hlts.2.1 (.int .i64 (Ex.ty S x)))
      obtain ⟨W3, hW3⟩ : ∃ W3, (w2.setCell ⟨bl, k, none⟩ (.int .i64 (Ex.tl b S x))).setCell ⟨bt, k, none⟩ (.int .i64 (Ex.ty S x)) = W3 := ⟨_, rfl⟩
      rw [hW3] at HM3 HS3
      have HNM := hide (HNX.out S)
      clear HNX
      generalize Ex.tl b S x = tlv at *
      generalize Ex.ty S x = tyv at *
      have HF := hide (HNM.out W3 W3 HM3.out HMID.out (Below.refl _ _) ⟨g, cap, by rw [HSTEP.out]; exact HS3.out⟩)
      clear hm2 hs2 hb2 hb2B HM1 HS1 HT HM3 HS3 HNM
      go_wp2
      go_roundw
      case rel => exact ⟨k + 1, by omega, by go_num, HF⟩
      case measure => simp [intOf]; omega
    · obtain rfl : k = n := by omega
      have hne : ¬ ((k : Int) < (k : Int)) := by omega
      have hl := hv.out.rm.ol
      have ht := hv.out.rm.ot
      rw [Ex.PL_end, ← HL.out] at hl ht
      have HRL := hide (show wr.ownsRow w.heap.size 3 1 (.slice (some ⟨bl, 0, none⟩) k k) k ((Ex.LV b c).map (Value.int .i64)) from by have := hl; rw [HL.out] at this; unfold Ex.LV; rw [HL.out]; exact this)
      have HRT := hide (show wr.ownsRow w.heap.size 3 1 (.slice (some ⟨bt, 0, none⟩) k k) k ((Ex.TY b c).map (Value.int .i64)) from by have := ht; rw [HL.out] at this; unfold Ex.TY; rw [HL.out]; exact this)
      have HB := hide hv.out.rm.bel
      have HNE := hide hv.out.rm.ne.1
      clear hv hl ht
      go_wp2
      go_ret3
      exact ⟨bl, bt, rfl, HRL.out, HRT.out, HNE.out, HB.out⟩
theorem resolve_ok (ao : Option Addr) (n cap0 : Nat) (c : List Int) (b : Int) (w : World) (h : Row .i64 w ao n cap0 c) (hn : n * 8 ≤ 140737488351232) (hb : b = 0 ∨ b = 1) (hF : Ex.Formed c) :
    Calls Tryz.prog 29 #[.slice ao n cap0, .int .i64 b] w fun e w' => ∃ bl bt, e = .returned (.tuple #[.slice (some ⟨bl, 0, none⟩) n n, .slice (some ⟨bt, 0, none⟩) n n, .int .i64 0]) ∧ Row .i64 w' (some ⟨bl, 0, none⟩) n n (Ex.LV b c) ∧ Row .i64 w' (some ⟨bt, 0, none⟩) n n (Ex.TY b c) ∧ Below w.heap.size w w' := by
  refine (resolve_own ao n cap0 c b w h hn hb hF).mono ?_
  rintro e w' ⟨bl, bt, he, h1, h2, _, h3⟩
  exact ⟨bl, bt, he, row_owned h1, row_owned h2, h3⟩
end Go.Proofs.YtfadjgaledddjaaGreatDoor

/- works: the chapter's examples; ExplicitRemoves. -/
namespace Go.Proofs.YtfadjgaledddjaaGreatDoor
open Go.RowKit
set_option linter.unusedVariables false
set_option maxHeartbeats 1000000
set_option maxRecDepth 100000
theorem ex_l0 : Ex.LV 0 [18, 1, 14] = [-1, 1, 1] := by decide
theorem ex_t0 : Ex.TY 0 [18, 1, 14] = [18, 2, 2] := by decide
theorem ex_l1 : Ex.LV 1 [20, 2, 23] = [1, 2, 1] := by decide
theorem ex_f0 : Ex.Formed [18, 1, 14] := by
  intro i hi
  match i, hi with
  | 0, _ => decide
  | 1, _ => decide
  | 2, _ => decide
theorem ex_f1 : Ex.Formed [20, 2, 23] := by
  intro i hi
  match i, hi with
  | 0, _ => decide
  | 1, _ => decide
  | 2, _ => decide
theorem rremoved_any (x : Int) (w : World) : Calls Tryz.prog 37 #[.int .i64 x] w fun e w' => e = .returned (.bool (Ex.rm x)) ∧ w = w' := by
  rcases rm_cases x with ⟨hs, h⟩ | ⟨hs, h1, h2, h3, h4, h5, h6⟩
  · rcases h with rfl | rfl | rfl | rfl | rfl | rfl
    all_goals
      clear hs
      go_enter Tryz.func37, Tryz.ntmps37
      go_wp2
      go_ret
      exact ⟨rfl, rfl⟩
  · rw [hs]
    have q1 : (x == 17) = false := beq_false_of_ne h1
    have q2 : (x == 15) = false := beq_false_of_ne h2
    have q3 : (x == 18) = false := beq_false_of_ne h3
    have q4 : (x == 16) = false := beq_false_of_ne h4
    have q5 : (x == 19) = false := beq_false_of_ne h5
    have q6 : (x == 10) = false := beq_false_of_ne h6
    clear hs
    go_enter Tryz.func37, Tryz.ntmps37
    go_wp2
    go_ret
    exact ⟨rfl, rfl⟩
end Go.Proofs.YtfadjgaledddjaaGreatDoor

/- Explicit levels: what an isolate leaves behind; plain paragraphs; plain mathematics. -/
namespace Go.Proofs.YtfadjgaledddjaaGreatDoor.Ex
set_option linter.unusedVariables false
theorem cn_append (E T : List Ent) : cn (E ++ T) = cn E + cn T := by
  induction E with
  | nil => simp [cn]
  | cons e r ih => rw [List.cons_append, cn, cn, ih]; omega
theorem pi_pos {E : List Ent} (T : List Ent) (h : 0 < cn E) : ∃ E', pi (E ++ T) = E' ++ T ∧ cn E' + 1 = cn E := by
  induction E with
  | nil => simp [cn] at h
  | cons e r ih =>
    cases he : e.is with
    | true => exact ⟨r, by simp [pi, he], by simp [cn, he]; omega⟩
    | false =>
      obtain ⟨E', h1, h2⟩ := ih (by simpa [cn, he] using h)
      exact ⟨E', by simpa [pi, he] using h1, by simpa [cn, he] using h2⟩
theorem pi_zero {E : List Ent} {e0 : Ent} (T : List Ent) (h : cn E = 0) (h0 : e0.is = true) : pi (E ++ e0 :: T) = T := by
  induction E with
  | nil => simp [pi, h0]
  | cons e r ih =>
    cases he : e.is with
    | true => simp [cn, he] at h
    | false => simp only [List.cons_append, pi, he]; exact ih (by simpa [cn, he] using h)
/-- Within an isolate that began at S0, d others open within it. -/
def In (S0 : St) (e0 : Ent) (v : Bool) (S : St) (d : Nat) : Prop :=
  (v = true ∧ ∃ E, S.st = E ++ e0 :: S0.st ∧ S.oi + cn E = d ∧ S.va = S0.va + 1 + cn E) ∨ (v = false ∧ S = ⟨S0.st, S0.oi + 1 + d, S0.oe, S0.va⟩)
theorem In.emb {S0 : St} {e0 : Ent} {v : Bool} {S : St} {d : Nat} (h : In S0 e0 v S d) (x : Int) : In S0 e0 v (emb S x) d := by
  rcases h with ⟨hv, E, h1, h2, h3⟩ | ⟨hv, rfl⟩
  · refine .inl ⟨hv, ?_⟩
    unfold Ex.emb
    split
    · exact ⟨_ :: E, by simp only [h1]; rfl, by simp only [cn]; simpa using h2, by simp only [cn]; simpa using h3⟩
    · split
      · exact ⟨E, h1, h2, h3⟩
      · exact ⟨E, h1, h2, h3⟩
  · refine .inr ⟨hv, ?_⟩
    unfold Ex.emb
    rw [if_neg (by rw [can_oi (by simp only; omega)]; decide), if_neg (by simp only; omega)]
theorem In.iso {S0 : St} {e0 : Ent} {v : Bool} {S : St} {d : Nat} (h : In S0 e0 v S d) (o : Bool) : In S0 e0 v (iso S o) (d + 1) := by
  rcases h with ⟨hv, E, h1, h2, h3⟩ | ⟨hv, rfl⟩
  · refine .inl ⟨hv, ?_⟩
    unfold Ex.iso
    split
    · refine ⟨_ :: E, by simp only [h1]; rfl, ?_, ?_⟩
      · simp only [cn, if_true]; omega
      · simp only [cn, if_true]; omega
    · exact ⟨E, h1, by simp only; omega, h3⟩
  · refine .inr ⟨hv, ?_⟩
    unfold Ex.iso
    rw [if_neg (by rw [can_oi (by simp only; omega)]; decide)]
    simp only [St.mk.injEq, true_and, and_true]
    omega
theorem In.pdf {S0 : St} {e0 : Ent} {v : Bool} {S : St} {d : Nat} (h : In S0 e0 v S d) (h0 : e0.is = true) : In S0 e0 v (pdf S) d := by
  rcases h with ⟨hv, E, h1, h2, h3⟩ | ⟨hv, rfl⟩
  · refine .inl ⟨hv, ?_⟩
    unfold Ex.pdf
    split
    · exact ⟨E, h1, h2, h3⟩
    · split
      · exact ⟨E, h1, h2, h3⟩
      · split
        · rename_i hc
          cases E with
          | nil => rw [h1] at hc; simp [hd, h0] at hc
          | cons e r =>
            have he : e.is = false := by rw [h1] at hc; exact hc.1
            refine ⟨r, by simp only [h1]; rfl, ?_, ?_⟩
            · simp only [cn, he] at h2; simpa using h2
            · simp only [cn, he] at h3; simpa using h3
        · exact ⟨E, h1, h2, h3⟩
  · refine .inr ⟨hv, ?_⟩
    unfold Ex.pdf
    rw [if_pos (by simp only; omega)]
theorem In.pdi {S0 : St} {e0 : Ent} {v : Bool} {S : St} {d : Nat} (h : In S0 e0 v S (d + 1)) : In S0 e0 v (pdi S) d := by
  rcases h with ⟨hv, E, h1, h2, h3⟩ | ⟨hv, rfl⟩
  · refine .inl ⟨hv, ?_⟩
    unfold Ex.pdi
    split
    · exact ⟨E, h1, by simp only; omega, h3⟩
    · rw [if_neg (by omega)]
      obtain ⟨E', g1, g2⟩ := pi_pos (e0 :: S0.st) (E := E) (by omega)
      exact ⟨E', by simp only [h1]; exact g1, by simp only; omega, by simp only; omega⟩
  · refine .inr ⟨hv, ?_⟩
    unfold Ex.pdi
    rw [if_pos (by simp only; omega)]
    simp only [St.mk.injEq, true_and, and_true]
    omega
theorem In.out {S0 : St} {e0 : Ent} {v : Bool} {S : St} (h : In S0 e0 v S 0) (h0 : e0.is = true) (hv : v = true → S0.oi = 0 ∧ S0.oe = 0) : Ex.pdi S = S0 := by
  rcases h with ⟨h4, E, h1, h2, h3⟩ | ⟨h4, rfl⟩
  · unfold Ex.pdi
    rw [if_neg (by omega), if_neg (by omega), h1, pi_zero _ (by omega) h0]
    obtain ⟨g1, g2⟩ := hv h4
    obtain ⟨st, oi, oe, va⟩ := S0
    simp only [St.mk.injEq, true_and] at *
    omega
  · unfold Ex.pdi
    rw [if_pos (by simp only; omega)]
    rfl
theorem In.mid {S0 : St} {e0 : Ent} {v : Bool} {S : St} {d : Nat} (h : In S0 e0 v S d) (h0 : e0.is = true) (x : Int) (hx : ¬ x = 23) : In S0 e0 v (mid S x) d := by
  unfold Ex.mid
  split
  · exact h.emb x
  · split
    · exact h.pdf h0
    · exact h
theorem In.begin (S0 : St) (o : Bool) : In S0 ⟨nl (hd S0.st).lv o, 0, true⟩ (can S0 o) (Ex.iso S0 o) 0 := by
  cases hc : can S0 o with
  | true => exact .inl ⟨rfl, [], by unfold Ex.iso; rw [if_pos hc]; rfl, by unfold Ex.iso; rw [if_pos hc]; simp [cn, (can_true hc).2.1], by unfold Ex.iso; rw [if_pos hc]; simp [cn]⟩
  | false => exact .inr ⟨rfl, by unfold Ex.iso; rw [if_neg (by rw [hc]; decide)]⟩
/-- AN ISOLATE LEAVES ALL AS IT WAS. -/
theorem at_pair (s : St) {c : List Int} {i : Nat} (h : Iso.st (c.getD i 0) = true) (hn : Iso.partner c i < c.length) : at' s c (Iso.partner c i + 1) = at' s c i := by
  obtain ⟨o, ho⟩ : ∃ o, wo (c.getD i 0) (c.drop (i + 1)) = o := ⟨_, rfl⟩
  have hbeg : at' s c (i + 1) = Ex.iso (at' s c i) o := by rw [at_succ, step, if_pos h, ho]
  have key : ∀ m, i + 1 + m ≤ Iso.partner c i → ∃ d, (Iso.stk c (i + 1 + m)).length = (Iso.stk c i).length + 1 + d ∧ In (at' s c i) ⟨nl (hd (at' s c i).st).lv o, 0, true⟩ (can (at' s c i) o) (at' s c (i + 1 + m)) d := by
    intro m
    induction m with
    | zero => intro _; exact ⟨0, by rw [Nat.add_zero, Iso.stk_init c i h]; simp, by rw [Nat.add_zero, hbeg]; exact In.begin _ _⟩
    | succ m ih =>
      intro hm
      obtain ⟨d, h1, h2⟩ := ih (by omega)
      obtain ⟨l', g1, _⟩ := Iso.stk_mid h (j := i + 1 + (m + 1)) (by omega) hm
      have g2 : (Iso.stk c (i + 1 + (m + 1))).length ≥ (Iso.stk c i).length + 1 := by rw [g1]; simp
      have hnx := Iso.stk_nx c (i + 1 + m)
      rw [show i + 1 + (m + 1) = i + 1 + m + 1 from by omega] at g2 ⊢
      rw [at_succ]
      rw [h1] at hnx
      by_cases hs : Iso.st (c.getD (i + 1 + m) 0) = true
      · refine ⟨d + 1, ?_, ?_⟩
        · rw [hnx, Iso.nx, if_pos hs]; omega
        · rw [step, if_pos hs]; exact h2.iso _
      · rw [step, if_neg hs]
        by_cases hx : c.getD (i + 1 + m) 0 = 23
        · rw [Iso.nx, if_neg hs, if_pos hx] at hnx
          obtain ⟨d', rfl⟩ : ∃ d', d = d' + 1 := ⟨d - 1, by omega⟩
          refine ⟨d', by omega, ?_⟩
          rw [hx]
          exact h2.pdi
        · rw [Iso.nx, if_neg hs, if_neg hx] at hnx
          exact ⟨d, by omega, h2.mid rfl _ hx⟩
  have hg := Iso.partner_gt c i
  obtain ⟨d, h1, h2⟩ := key (Iso.partner c i - (i + 1)) (by omega)
  rw [show i + 1 + (Iso.partner c i - (i + 1)) = Iso.partner c i from by omega] at h1 h2
  obtain ⟨p1, p2, _⟩ := Iso.partner_pdi h hn
  rw [p2] at h1
  obtain rfl : d = 0 := by simp at h1; omega
  rw [at_succ, p1, step_pdi]
  exact h2.out rfl (fun hc => (can_true hc).2)
theorem st_kept {x : Int} (h : Iso.st x = true) : rm x = false ∧ ¬ x = 11 ∧ ¬ x = 1 ∧ ¬ x = 2 := by
  unfold Iso.st at h
  simp only [Bool.or_eq_true, beq_iff_eq] at h
  rcases h with (rfl | rfl) | rfl <;> decide
theorem tl_kept {b : Int} {S : St} {x : Int} (h : rm x = false) (hx : ¬ x = 11) : tl b S x = (hd S.st).lv ∧ ty S x = if (hd S.st).ov = 0 then x else (hd S.st).ov := by
  unfold tl ty
  simp [h, hx]
/-- An initiator and its PDI have one level, and one override. -/
theorem lev_pair (b : Int) (s : St) {c : List Int} {i : Nat} (h : Iso.st (c.getD i 0) = true) (hn : Iso.partner c i < c.length) :
    lev b s c (Iso.partner c i) = lev b s c i ∧ ∃ ov, ov = (hd (at' s c i).st).ov ∧ typ s c i = (if ov = 0 then c.getD i 0 else ov) ∧ typ s c (Iso.partner c i) = (if ov = 0 then 23 else ov) := by
  have hp := at_pair s h hn
  obtain ⟨p1, _, _⟩ := Iso.partner_pdi h hn
  have hm : mid (at' s c (Iso.partner c i)) (c.getD (Iso.partner c i) 0) = at' s c i := by rw [← hp, at_succ, p1]; rfl
  obtain ⟨k1, k2, _⟩ := st_kept h
  have e1 := tl_kept (b := b) (S := at' s c i) k1 k2
  have e2 := tl_kept (b := b) (S := at' s c i) (x := 23) (by decide) (by decide)
  refine ⟨?_, _, rfl, ?_, ?_⟩
  · unfold lev; rw [hm, mid_st h, p1, e1.1, e2.1]
  · unfold typ; rw [mid_st h, e1.2]
  · unfold typ; rw [hm, p1, e2.2]
/-- No embeddings, overrides and initiators ahead of a place. -/
def pl (c : List Int) : Nat → Bool
  | 0 => true
  | k + 1 => pl c k && !(em (c.getD k 0)) && !(Iso.st (c.getD k 0))
theorem mid_s0 {b : Int} {x : Int} (h : em x = false) : mid (s0 b) x = s0 b := by
  unfold mid
  rw [h, if_neg (by decide)]
  split
  · rfl
  · split
    · rfl
    · rfl
theorem pl_at {b : Int} {c : List Int} : ∀ k, pl c k = true → at' (s0 b) c k = s0 b := by
  intro k
  induction k with
  | zero => intro _; rfl
  | succ k ih =>
    intro h
    simp only [pl, Bool.and_eq_true, Bool.not_eq_true'] at h
    rw [at_succ, ih h.1.1, step, if_neg (by rw [h.2]; decide), mid_s0 h.1.2]
theorem pl_mono {c : List Int} {k : Nat} : ∀ m, pl c (k + m) = true → pl c k = true := by
  intro m
  induction m with
  | zero => intro h; exact h
  | succ m ih =>
    intro h
    rw [show k + (m + 1) = k + m + 1 from by omega] at h
    simp only [pl, Bool.and_eq_true] at h
    exact ih h.1.1
theorem pl_lev {b : Int} {c : List Int} {n k : Nat} (h : pl c n = true) (hk : k < n) : (lev b (s0 b) c k = b ∨ lev b (s0 b) c k = -1) ∧ typ (s0 b) c k = c.getD k 0 := by
  have h1 : pl c (k + 1) = true := pl_mono (n - (k + 1)) (by rw [show k + 1 + (n - (k + 1)) = n from by omega]; exact h)
  have h2 : pl c k = true := pl_mono 1 h1
  simp only [pl, Bool.and_eq_true, Bool.not_eq_true'] at h1
  unfold lev typ
  rw [pl_at k h2, mid_s0 h1.1.2]
  generalize c.getD k 0 = x at *
  unfold tl ty
  constructor
  · split
    · exact .inr rfl
    · left
      split
      · rfl
      · rfl
  · split
    · rfl
    · split
      · rfl
      · rfl
end Go.Proofs.YtfadjgaledddjaaGreatDoor.Ex
