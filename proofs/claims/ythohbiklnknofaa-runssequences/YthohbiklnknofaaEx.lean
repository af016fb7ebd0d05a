/- Explicit levels: plain mathematics. No Go in sight. -/
import Derived.Test.YthohbiklnknofaaIso
namespace Go.Proofs.Ythohbiklnknofaa.Ex
set_option linter.unusedVariables false
/-- An entry: its level, its override (0 none, 1 L, 2 R), whether it is an isolate's. -/
structure Ent where
  lv : Int
  ov : Int
  is : Bool
/-- What is kept on the way: the entries, the last one first; how many isolates and embeddings overflow, how many isolates are valid. -/
structure St where
  st : List Ent
  oi : Nat
  oe : Nat
  va : Nat
def bot (b : Int) : Ent := ⟨b, 0, false⟩
def hd : List Ent → Ent
  | [] => ⟨0, 0, false⟩
  | e :: _ => e
def s0 (b : Int) : St := ⟨[bot b], 0, 0, 0⟩
/-- The next level. -/
def nl (l : Int) (o : Bool) : Int := if (l + 1) % 2 = (if o then 1 else 0) then l + 1 else l + 2
theorem nl_gt (l : Int) (o : Bool) : l < nl l o ∧ nl l o ≤ l + 2 := by unfold nl; split <;> omega
def can (s : St) (o : Bool) : Bool := decide (nl (hd s.st).lv o ≤ 125) && (s.oi == 0 && s.oe == 0)
theorem can_true {s : St} {o : Bool} (h : can s o = true) : nl (hd s.st).lv o ≤ 125 ∧ s.oi = 0 ∧ s.oe = 0 := by
  unfold can at h
  simp only [Bool.and_eq_true, decide_eq_true_eq, beq_iff_eq] at h
  exact ⟨h.1, h.2.1, h.2.2⟩
theorem can_mk {s : St} {o : Bool} (h1 : nl (hd s.st).lv o ≤ 125) (h2 : s.oi = 0) (h3 : s.oe = 0) : can s o = true := by
  unfold can
  simp only [Bool.and_eq_true, decide_eq_true_eq, beq_iff_eq]
  exact ⟨h1, h2, h3⟩
theorem can_oi {s : St} {o : Bool} (h : 0 < s.oi) : can s o = false := by
  cases hc : can s o with
  | false => rfl
  | true => have := (can_true hc).2.1; omega
theorem can_oe {s : St} {o : Bool} (h : 0 < s.oe) : can s o = false := by
  cases hc : can s o with
  | false => rfl
  | true => have := (can_true hc).2.2; omega
theorem can_lv {s : St} {o : Bool} (h : 125 < nl (hd s.st).lv o) : can s o = false := by
  cases hc : can s o with
  | false => rfl
  | true => have := (can_true hc).1; omega
/-- RLE, LRE, RLO, LRO. -/
def em (x : Int) : Bool := x == 17 || x == 15 || x == 18 || x == 16
/-- What is removed. -/
def rm (x : Int) : Bool := x == 17 || x == 15 || x == 18 || x == 16 || x == 19 || x == 10
def ovr (x : Int) : Int := if x = 16 then 1 else if x = 18 then 2 else 0
def odd (x : Int) : Bool := x == 17 || x == 18 || x == 21
def emb (s : St) (x : Int) : St := if can s (odd x) then ⟨⟨nl (hd s.st).lv (odd x), ovr x, false⟩ :: s.st, s.oi, s.oe, s.va⟩ else if s.oi = 0 then ⟨s.st, s.oi, s.oe + 1, s.va⟩ else s
def iso (s : St) (o : Bool) : St := if can s o then ⟨⟨nl (hd s.st).lv o, 0, true⟩ :: s.st, s.oi, s.oe, s.va + 1⟩ else ⟨s.st, s.oi + 1, s.oe, s.va⟩
/-- Up to the last entry of an isolate, it too. -/
def pi : List Ent → List Ent
  | [] => []
  | e :: r => if e.is then r else pi r
def pdi (s : St) : St := if 0 < s.oi then ⟨s.st, s.oi - 1, s.oe, s.va⟩ else if s.va = 0 then s else ⟨pi s.st, s.oi, 0, s.va - 1⟩
def pdf (s : St) : St := if 0 < s.oi then s else if 0 < s.oe then ⟨s.st, s.oi, s.oe - 1, s.va⟩ else if (hd s.st).is = false ∧ 1 < s.st.length then ⟨s.st.tail, s.oi, s.oe, s.va⟩ else s
/-- The direction of what lies in an FSI's isolate: by what stands behind it. -/
def fs : Nat → List Int → Int
  | _, [] => 0
  | o, x :: r => if o = 0 ∧ x = 1 then 0 else if o = 0 ∧ (x = 2 ∨ x = 3) then 1 else if o = 0 ∧ x = 23 then 0 else fs (Iso.nx o x) r
theorem fs_cons (o : Nat) (x : Int) (r : List Int) : fs o (x :: r) = if o = 0 ∧ x = 1 then 0 else if o = 0 ∧ (x = 2 ∨ x = 3) then 1 else if o = 0 ∧ x = 23 then 0 else fs (Iso.nx o x) r := rfl
theorem fs_bso (l : List Int) : ∀ o, Iso.bso o (l.take (Iso.ptl o l)) = fs o l := by
  induction l with
  | nil => intro o; rfl
  | cons x r ih =>
    intro o
    have key : ∀ q, Iso.bso o ((x :: r).take (q + 1)) = if o = 0 ∧ x = 1 then 0 else if o = 0 ∧ (x = 2 ∨ x = 3) then 1 else Iso.bso (Iso.nx o x) (r.take q) := fun q => rfl
    rw [Iso.ptl_cons, fs_cons]
    by_cases hs : Iso.st x = true
    · rw [if_pos hs, key]
      have hx : ¬ (o = 0 ∧ x = 23) := fun h => Iso.st_23 hs h.2
      rw [if_neg hx, show Iso.nx o x = o + 1 from by unfold Iso.nx; rw [if_pos hs], ih]
    · rw [if_neg hs]
      by_cases h2 : x = 23
      · rw [if_pos h2]
        have hn : Iso.nx o x = o - 1 := by unfold Iso.nx; rw [if_neg hs, if_pos h2]
        by_cases ho : o = 0
        · rw [if_pos ho, if_neg (by omega), if_neg (by omega), if_pos ⟨ho, h2⟩]
          rfl
        · rw [if_neg ho, key, if_neg (fun h => ho h.1), if_neg (fun h => ho h.1), if_neg (fun h => ho h.1), if_neg (fun h => ho h.1), if_neg (fun h => ho h.1), hn, ih]
      · rw [if_neg h2, key]
        have hx : ¬ (o = 0 ∧ x = 23) := fun h => h2 h.2
        rw [if_neg hx, show Iso.nx o x = o from by unfold Iso.nx; rw [if_neg hs, if_neg h2], ih]
/-- Base of what lies in an isolate. -/
theorem base_fs (c : List Int) (i : Nat) : Iso.bso 0 ((c.take (Iso.partner c i)).drop (i + 1)) = fs 0 (c.drop (i + 1)) := by
  rw [← fs_bso (c.drop (i + 1)) 0, List.drop_take]
  unfold Iso.partner
  rw [show i + 1 + Iso.ptl 0 (c.drop (i + 1)) - (i + 1) = Iso.ptl 0 (c.drop (i + 1)) from by omega]
/-- Does an initiator go to odd levels? -/
def wo (x : Int) (r : List Int) : Bool := if x = 22 then fs 0 r == 1 else x == 21
/-- Behind embeddings, overrides and ends. -/
def mid (s : St) (x : Int) : St := if em x then emb s x else if x = 19 then pdf s else if x = 23 then pdi s else s
def step (s : St) (x : Int) (r : List Int) : St := if Iso.st x then iso s (wo x r) else mid s x
def at' (s : St) (c : List Int) : Nat → St
  | 0 => s
  | k + 1 => step (at' s c k) (c.getD k 0) (c.drop (k + 1))
theorem at_succ (s : St) (c : List Int) (k : Nat) : at' s c (k + 1) = step (at' s c k) (c.getD k 0) (c.drop (k + 1)) := rfl
def tl (b : Int) (s : St) (x : Int) : Int := if rm x then -1 else if x = 11 then b else (hd s.st).lv
def ty (s : St) (x : Int) : Int := if rm x then x else if x = 11 then x else if (hd s.st).ov = 0 then x else (hd s.st).ov
/-- The level and the type of a place. -/
def lev (b : Int) (s : St) (c : List Int) (k : Nat) : Int := tl b (mid (at' s c k) (c.getD k 0)) (c.getD k 0)
def typ (s : St) (c : List Int) (k : Nat) : Int := ty (mid (at' s c k) (c.getD k 0)) (c.getD k 0)
def LV (b : Int) (c : List Int) : List Int := (List.range c.length).map (lev b (s0 b) c)
def TY (b : Int) (c : List Int) : List Int := (List.range c.length).map (typ (s0 b) c)
theorem LV_len (b : Int) (c : List Int) : (LV b c).length = c.length := by simp [LV]
theorem TY_len (b : Int) (c : List Int) : (TY b c).length = c.length := by simp [TY]
theorem LV_at (b : Int) (c : List Int) (k : Nat) (h : k < c.length) : (LV b c).getD k 0 = lev b (s0 b) c k := by simp [LV, List.getD, h]
theorem TY_at (b : Int) (c : List Int) (k : Nat) (h : k < c.length) : (TY b c).getD k 0 = typ (s0 b) c k := by simp [TY, List.getD, h]
/-- What has been laid behind k rounds. -/
def PL (f : Nat → Int) (n k : Nat) : List Int := (List.range n).map fun j => if j < k then f j else 0
theorem PL_len (f : Nat → Int) (n k : Nat) : (PL f n k).length = n := by simp [PL]
theorem PL_zero (f : Nat → Int) (n : Nat) : PL f n 0 = List.replicate n 0 := by
  apply List.ext_getElem
  · simp [PL]
  · intro j h1 h2; simp [PL]
theorem PL_end (f : Nat → Int) (n : Nat) : PL f n n = (List.range n).map f := by
  apply List.ext_getElem
  · simp [PL]
  · intro j h1 h2
    have hj : j < n := by rw [PL_len] at h1; exact h1
    simp only [PL, List.getElem_map, List.getElem_range, if_pos hj]
theorem PL_set (f : Nat → Int) (n k : Nat) : PL f n (k + 1) = (PL f n k).set k (f k) := by
  apply List.ext_getElem
  · simp [PL]
  · intro j h1 h2
    rw [List.getElem_set]
    simp only [PL, List.getElem_map, List.getElem_range]
    by_cases hj : k = j
    · subst hj
      rw [if_pos (by omega), if_pos rfl]
    · rw [if_neg hj]
      by_cases h3 : j < k
      · rw [if_pos (by omega), if_pos h3]
      · rw [if_neg (by omega), if_neg h3]
/-- Entries as they can be: levels rise from the base on. -/
inductive Chain (b : Int) : List Ent → Prop
  | one : Chain b [bot b]
  | cons (e : Ent) (r : List Ent) : Chain b r → (hd r).lv < e.lv → e.lv ≤ 125 → 0 ≤ e.ov → e.ov ≤ 2 → Chain b (e :: r)
def cn : List Ent → Nat
  | [] => 0
  | e :: r => (if e.is then 1 else 0) + cn r
theorem Chain.pos {b : Int} {l : List Ent} (h : Chain b l) : 0 < l.length := by cases h <;> simp
theorem Chain.lo {b : Int} {l : List Ent} (h : Chain b l) : b ≤ (hd l).lv := by
  induction h with
  | one => exact Int.le_refl _
  | cons e r _ h1 _ _ _ ih => simp only [hd]; omega
theorem Chain.hi {b : Int} {l : List Ent} (h : Chain b l) (hb : b ≤ 125) : (hd l).lv ≤ 125 := by
  cases h with
  | one => exact hb
  | cons e r _ _ h2 _ _ => exact h2
theorem Chain.ov {b : Int} {l : List Ent} (h : Chain b l) : 0 ≤ (hd l).ov ∧ (hd l).ov ≤ 2 := by
  cases h with
  | one => simp [hd, bot]
  | cons e r _ _ _ h3 h4 => exact ⟨h3, h4⟩
theorem Chain.len {b : Int} {l : List Ent} (h : Chain b l) : (l.length : Int) ≤ (hd l).lv - b + 1 := by
  induction h with
  | one => simp [hd, bot]
  | cons e r _ h1 _ _ _ ih => simp only [hd, List.length_cons] at *; omega
theorem Chain.last {b : Int} {l : List Ent} (h : Chain b l) : ∃ r, l = r ++ [bot b] := by
  induction h with
  | one => exact ⟨[], rfl⟩
  | cons e r _ _ _ _ _ ih => obtain ⟨q, rfl⟩ := ih; exact ⟨e :: q, rfl⟩
theorem Chain.more {b : Int} {l : List Ent} (h : Chain b l) (h1 : 1 < l.length) : b < (hd l).lv ∧ Chain b l.tail := by
  cases h with
  | one => simp at h1
  | cons e r hr h2 _ _ _ => have := hr.lo; exact ⟨by simp only [hd]; omega, hr⟩
theorem Chain.only {b : Int} {l : List Ent} (h : Chain b l) (h1 : ¬ 1 < l.length) : l = [bot b] := by
  cases h with
  | one => rfl
  | cons e r hr _ _ _ _ => have := hr.pos; simp only [List.length_cons] at h1; omega
theorem Chain.pi {b : Int} {l : List Ent} (h : Chain b l) (h1 : 0 < cn l) : Chain b (pi l) ∧ cn (Ex.pi l) + 1 = cn l := by
  induction h with
  | one => simp [cn, bot] at h1
  | cons e r hr _ _ _ _ ih =>
    cases he : e.is with
    | true => simp only [Ex.pi, cn, he, if_true]; exact ⟨hr, by omega⟩
    | false =>
      simp only [cn, he] at h1
      have := ih (by simpa using h1)
      simp only [Ex.pi, cn, he]
      simpa using this
theorem cn_le (l : List Ent) : cn l ≤ l.length := by
  induction l with
  | nil => exact Nat.le_refl _
  | cons e r ih => simp only [cn, List.length_cons]; split <;> omega
structure Ok (b : Int) (s : St) (k : Nat) : Prop where
  ch : Chain b s.st
  va : s.va = cn s.st
  oi : s.oi ≤ k
  oe : s.oe ≤ k
theorem Ok.s0 (b : Int) : Ok b (s0 b) 0 := ⟨.one, by simp [Ex.s0, cn, bot], Nat.le_refl _, Nat.le_refl _⟩
theorem Ok.mono {b : Int} {s : St} {k m : Nat} (h : Ok b s k) (hk : k ≤ m) : Ok b s m := ⟨h.ch, h.va, Nat.le_trans h.oi hk, Nat.le_trans h.oe hk⟩
theorem ovr_range (x : Int) : 0 ≤ ovr x ∧ ovr x ≤ 2 := by unfold ovr; split <;> (try split) <;> decide
theorem Ok.emb {b : Int} {s : St} {k : Nat} (h : Ok b s k) (x : Int) : Ok b (emb s x) (k + 1) := by
  have ho := ovr_range x
  have hn := nl_gt (hd s.st).lv (odd x)
  have h1 := h.oi
  have h2 := h.oe
  unfold Ex.emb
  split
  · rename_i hc
    exact ⟨.cons _ _ h.ch hn.1 (can_true hc).1 ho.1 ho.2, by simp [cn, h.va], by simp only; omega, by simp only; omega⟩
  · split
    · exact ⟨h.ch, h.va, by simp only; omega, by simp only; omega⟩
    · exact h.mono (by omega)
theorem Ok.iso {b : Int} {s : St} {k : Nat} (h : Ok b s k) (o : Bool) : Ok b (iso s o) (k + 1) := by
  have hn := nl_gt (hd s.st).lv o
  have h1 := h.oi
  have h2 := h.oe
  unfold Ex.iso
  split
  · rename_i hc
    exact ⟨.cons _ _ h.ch hn.1 (can_true hc).1 (by simp) (by simp), by simp [cn, h.va, Nat.add_comm], by simp only; omega, by simp only; omega⟩
  · exact ⟨h.ch, h.va, by simp only; omega, by simp only; omega⟩
theorem Ok.pdi {b : Int} {s : St} {k : Nat} (h : Ok b s k) : Ok b (pdi s) k := by
  have h1 := h.oi
  have h2 := h.oe
  unfold Ex.pdi
  split
  · exact ⟨h.ch, h.va, by simp only; omega, by simp only; omega⟩
  · split
    · exact h
    · rename_i hv
      have := h.ch.pi (by have := h.va; omega)
      exact ⟨this.1, by have h3 := h.va; have h4 := this.2; simp only; omega, by simp only; omega, by simp only; omega⟩
theorem cn_tail {l : List Ent} (h : (hd l).is = false) : cn l.tail = cn l := by
  cases l with
  | nil => rfl
  | cons e r => simp only [hd] at h; simp [cn, h]
theorem Ok.pdf {b : Int} {s : St} {k : Nat} (h : Ok b s k) : Ok b (pdf s) k := by
  have h1 := h.oi
  have h2 := h.oe
  unfold Ex.pdf
  split
  · exact h
  · split
    · exact ⟨h.ch, h.va, by simp only; omega, by simp only; omega⟩
    · split
      · rename_i hc
        exact ⟨(h.ch.more hc.2).2, by simp only [cn_tail hc.1]; exact h.va, h1, h2⟩
      · exact h
theorem Ok.mid {b : Int} {s : St} {k : Nat} (h : Ok b s k) (x : Int) : Ok b (mid s x) (k + 1) := by
  unfold Ex.mid
  split
  · exact h.emb x
  · split
    · exact h.pdf.mono (by omega)
    · split
      · exact h.pdi.mono (by omega)
      · exact h.mono (by omega)
theorem Ok.step {b : Int} {s : St} {k : Nat} (h : Ok b s k) (x : Int) (r : List Int) : Ok b (step s x r) (k + 1) := by
  unfold Ex.step
  split
  · exact h.iso _
  · exact h.mid x
theorem Ok.at {b : Int} (c : List Int) : ∀ k, Ok b (at' (Ex.s0 b) c k) k := by
  intro k
  induction k with
  | zero => exact Ok.s0 b
  | succ k ih => exact ih.step _ _
/-- A paragraph's classes. -/
def Formed (c : List Int) : Prop := ∀ i, i < c.length → 1 ≤ c.getD i 0 ∧ c.getD i 0 ≤ 23 ∧ (c.getD i 0 = 11 → i + 1 = c.length)
theorem mid_st {s : St} {x : Int} (h : Iso.st x = true) : mid s x = s := by
  have : em x = false ∧ ¬ x = 19 ∧ ¬ x = 23 := by
    unfold Iso.st at h
    simp only [Bool.or_eq_true, beq_iff_eq] at h
    rcases h with (rfl | rfl) | rfl <;> decide
  unfold mid
  rw [this.1, if_neg (by decide), if_neg this.2.1, if_neg this.2.2]
theorem step_em (s : St) (x : Int) (r : List Int) (h : em x = true) : step s x r = emb s x := by
  have hs : Iso.st x = false := by
    unfold em at h
    simp only [Bool.or_eq_true, beq_iff_eq] at h
    rcases h with ((rfl | rfl) | rfl) | rfl <;> decide
  unfold step mid
  rw [hs, h]; rfl
theorem step_pdf (s : St) (r : List Int) : step s 19 r = pdf s := rfl
theorem step_pdi (s : St) (r : List Int) : step s 23 r = pdi s := rfl
end Go.Proofs.Ythohbiklnknofaa.Ex
