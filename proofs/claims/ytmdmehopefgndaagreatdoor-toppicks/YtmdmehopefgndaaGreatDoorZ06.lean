import Derived.Test.YtmdmehopefgndaaGreatDoorZ05
/- Explicit levels: plain mathematics. No Go in sight. -/
namespace Go.Proofs.YtmdmehopefgndaaGreatDoor.Ex
set_option linter.unusedVariables false
/-- An entry: its level, its override (0 none, 1 L, 2 R), whether it is an isolate's. -/
structure Ent where
  lv : Int
  ov : Int
  is : Bool
/-- What is kept on the way: the entries, the last one first; how many isolates and embeddings overflow, how many isolates are valid. -/
structure St where
  st : List Ent
  oi : Nat
  oe : Nat
  va : Nat
def bot (b : Int) : Ent := ⟨b, 0, false⟩
def hd : List Ent → Ent
  | [] => ⟨0, 0, false⟩
  | e :: _ => e
def s0 (b : Int) : St := ⟨[bot b], 0, 0, 0⟩
/-- The next level. -/
def nl (l : Int) (o : Bool) : Int := if (l + 1) % 2 = (if o then 1 else 0) then l + 1 else l + 2
theorem nl_gt (l : Int) (o : Bool) : l < nl l o ∧ nl l o ≤ l + 2 := by unfold nl; split <;> omega
def can (s : St) (o : Bool) : Bool := decide (nl (hd s.st).lv o ≤ 125) && (s.oi == 0 && s.oe == 0)
theorem can_true {s : St} {o : Bool} (h : can s o = true) : nl (hd s.st).lv o ≤ 125 ∧ s.oi = 0 ∧ s.oe = 0 := by
  unfold can at h
  simp only [Bool.and_eq_true, decide_eq_true_eq, beq_iff_eq] at h
  exact ⟨h.1, h.2.1, h.2.2⟩
theorem can_mk {s : St} {o : Bool} (h1 : nl (hd s.st).lv o ≤ 125) (h2 : s.oi = 0) (h3 : s.oe = 0) : can s o = true := by
  unfold can
  simp only [Bool.and_eq_true, decide_eq_true_eq, beq_iff_eq]
  exact ⟨h1, h2, h3⟩
theorem can_oi {s : St} {o : Bool} (h : 0 < s.oi) : can s o = false := by
  cases hc : can s o with
  | false => rfl
  | true => have := (can_true hc).2.1; omega
theorem can_oe {s : St} {o : Bool} (h : 0 < s.oe) : can s o = false := by
  cases hc : can s o with
  | false => rfl
  | true => have := (can_true hc).2.2; omega
theorem can_lv {s : St} {o : Bool} (h : 125 < nl (hd s.st).lv o) : can s o = false := by
  cases hc : can s o with
  | false => rfl
  | true => have := (can_true hc).1; omega
/-- RLE, LRE, RLO, LRO. -/
def em (x : Int) : Bool := x == 17 || x == 15 || x == 18 || x == 16
/-- What is removed. -/
def rm (x : Int) : Bool := x == 17 || x == 15 || x == 18 || x == 16 || x == 19 || x == 10
def ovr (x : Int) : Int := if x = 16 then 1 else if x = 18 then 2 else 0
def odd (x : Int) : Bool := x == 17 || x == 18 || x == 21
def emb (s : St) (x : Int) : St := if can s (odd x) then ⟨⟨nl (hd s.st).lv (odd x), ovr x, false⟩ :: s.st, s.oi, s.oe, s.va⟩ else if s.oi = 0 then ⟨s.st, s.oi, s.oe + 1, s.va⟩ else s
def iso (s : St) (o : Bool) : St := if can s o then ⟨⟨nl (hd s.st).lv o, 0, true⟩ :: s.st, s.oi, s.oe, s.va + 1⟩ else ⟨s.st, s.oi + 1, s.oe, s.va⟩
/-- Up to the last entry of an isolate, it too. -/
def pi : List Ent → List Ent
  | [] => []
  | e :: r => if e.is then r else pi r
def pdi (s : St) : St := if 0 < s.oi then ⟨s.st, s.oi - 1, s.oe, s.va⟩ else if s.va = 0 then s else ⟨pi s.st, s.oi, 0, s.va - 1⟩
def pdf (s : St) : St := if 0 < s.oi then s else if 0 < s.oe then ⟨s.st, s.oi, s.oe - 1, s.va⟩ else if (hd s.st).is = false ∧ 1 < s.st.length then ⟨s.st.tail, s.oi, s.oe, s.va⟩ else s
/-- The direction of what lies in an FSI's isolate: by what stands behind it. -/
def fs : Nat → List Int → Int
  | _, [] => 0
  | o, x :: r => if o = 0 ∧ x = 1 then 0 else if o = 0 ∧ (x = 2 ∨ x = 3) then 1 else if o = 0 ∧ x = 23 then 0 else fs (Iso.nx o x) r
theorem fs_cons (o : Nat) (x : Int) (r : List Int) : fs o (x :: r) = if o = 0 ∧ x = 1 then 0 else if o = 0 ∧ (x = 2 ∨ x = 3) then 1 else if o = 0 ∧ x = 23 then 0 else fs (Iso.nx o x) r := rfl
theorem fs_bso (l : List Int) : ∀ o, Iso.bso o (l.take (Iso.ptl o l)) = fs o l := by
  induction l with
  | nil => intro o; rfl
  | cons x r ih =>
    intro o
    have key : ∀ q, Iso.bso o ((x :: r).take (q + 1)) = if o = 0 ∧ x = 1 then 0 else if o = 0 ∧ (x = 2 ∨ x = 3) then 1 else Iso.bso (Iso.nx o x) (r.take q) := fun q => rfl
    rw [Iso.ptl_cons, fs_cons]
    by_cases hs : Iso.st x = true
    · rw [if_pos hs, key]
      have hx : ¬ (o = 0 ∧ x = 23) := fun h => Iso.st_23 hs h.2
      rw [if_neg hx, show Iso.nx o x = o + 1 from by unfold Iso.nx; rw [if_pos hs], ih]
    · rw [if_neg hs]
      by_cases h2 : x = 23
      · rw [if_pos h2]
        have hn : Iso.nx o x = o - 1 := by unfold Iso.nx; rw [if_neg hs, if_pos h2]
        by_cases ho : o = 0
        · rw [if_pos ho, if_neg (by omega), if_neg (by omega), if_pos ⟨ho, h2⟩]
          rfl
        · rw [if_neg ho, key, if_neg (fun h => ho h.1), if_neg (fun h => ho h.1), if_neg (fun h => ho h.1), if_neg (fun h => ho h.1), if_neg (fun h => ho h.1), hn, ih]
      · rw [if_neg h2, key]
        have hx : ¬ (o = 0 ∧ x = 23) := fun h => h2 h.2
        rw [if_neg hx, show Iso.nx o x = o from by unfold Iso.nx; rw [if_neg hs, if_neg h2], ih]
/-- Base of what lies in an isolate. -/
theorem base_fs (c : List Int) (i : Nat) : Iso.bso 0 ((c.take (Iso.partner c i)).drop (i + 1)) = fs 0 (c.drop (i + 1)) := by
  rw [← fs_bso (c.drop (i + 1)) 0, List.drop_take]
  unfold Iso.partner
  rw [show i + 1 + Iso.ptl 0 (c.drop (i + 1)) - (i + 1) = Iso.ptl 0 (c.drop (i + 1)) from by omega]
/-- Does an initiator go to odd levels? -/
def wo (x : Int) (r : List Int) : Bool := if x = 22 then fs 0 r == 1 else x == 21
/-- Behind embeddings, overrides and ends. -/
def mid (s : St) (x : Int) : St := if em x then emb s x else if x = 19 then pdf s else if x = 23 then pdi s else s
def step (s : St) (x : Int) (r : List Int) : St := if Iso.st x then iso s (wo x r) else mid s x
def at' (s : St) (c : List Int) : Nat → St
  | 0 => s
  | k + 1 => step (at' s c k) (c.getD k 0) (c.drop (k + 1))
theorem at_succ (s : St) (c : List Int) (k : Nat) : at' s c (k + 1) = step (at' s c k) (c.getD k 0) (c.drop (k + 1)) := rfl
def tl (b : Int) (s : St) (x : Int) : Int := if rm x then -1 else if x = 11 then b else (hd s.st).lv
def ty (s : St) (x : Int) : Int := if rm x then x else if x = 11 then x else if (hd s.st).ov = 0 then x else (hd s.st).ov
/-- The level and the type of a place. -/
def lev (b : Int) (s : St) (c : List Int) (k : Nat) : Int := tl b (mid (at' s c k) (c.getD k 0)) (c.getD k 0)
def typ (s : St) (c : List Int) (k : Nat) : Int := ty (mid (at' s c k) (c.getD k 0)) (c.getD k 0)
def LV (b : Int) (c : List Int) : List Int := (List.range c.length).map (lev b (s0 b) c)
def TY (b : Int) (c : List Int) : List Int := (List.range c.length).map (typ (s0 b) c)
theorem LV_len (b : Int) (c : List Int) : (LV b c).length = c.length := by simp [LV]
theorem TY_len (b : Int) (c : List Int) : (TY b c).length = c.length := by simp [TY]
theorem LV_at (b : Int) (c : List Int) (k : Nat) (h : k < c.length) : (LV b c).getD k 0 = lev b (s0 b) c k := by simp [LV, List.getD, h]
theorem TY_at (b : Int) (c : List Int) (k : Nat) (h : k < c.length) : (TY b c).getD k 0 = typ (s0 b) c k := by simp [TY, List.getD, h]
/-- What has been laid behind k rounds. -/
def PL (f : Nat → Int) (n k : Nat) : List Int := (List.range n).map fun j => if j < k then f j else 0
theorem PL_len (f : Nat → Int) (n k : Nat) : (PL f n k).length = n := by simp [PL]
theorem PL_zero (f : Nat → Int) (n : Nat) : PL f n 0 = List.replicate n 0 := by
  apply List.ext_getElem
  · simp [PL]
  · intro j h1 h2; simp [PL]
theorem PL_end (f : Nat → Int) (n : Nat) : PL f n n = (List.range n).map f := by
  apply List.ext_getElem
  · simp [PL]
  · intro j h1 h2
    have hj : j < n := by rw [PL_len] at h1; exact h1
    simp only [PL, List.getElem_map, List.getElem_range, if_pos hj]
theorem PL_set (f : Nat → Int) (n k : Nat) : PL f n (k + 1) = (PL f n k).set k (f k) := by
  apply List.ext_getElem
  · simp [PL]
  · intro j h1 h2
    rw [List.getElem_set]
    simp only [PL, List.getElem_map, List.getElem_range]
    by_cases hj : k = j
    · subst hj
      rw [if_pos (by omega), if_pos rfl]
    · rw [if_neg hj]
      by_cases h3 : j < k
      · rw [if_pos (by omega), if_pos h3]
      · rw [if_neg (by omega), if_neg h3]
/-- Entries as they can be: levels rise from the base on. -/
inductive Chain (b : Int) : List Ent → Prop
  | one : Chain b [bot b]
  | cons (e : Ent) (r : List Ent) : Chain b r → (hd r).lv < e.lv → e.lv ≤ 125 → 0 ≤ e.ov → e.ov ≤ 2 → Chain b (e :: r)
def cn : List Ent → Nat
  | [] => 0
  | e :: r => (if e.is then 1 else 0) + cn r
theorem Chain.pos {b : Int} {l : List Ent} (h : Chain b l) : 0 < l.length := by cases h <;> simp
theorem Chain.lo {b : Int} {l : List Ent} (h : Chain b l) : b ≤ (hd l).lv := by
  induction h with
  | one => exact Int.le_refl _
  | cons e r _ h1 _ _ _ ih => simp only [hd]; omega
theorem Chain.hi {b : Int} {l : List Ent} (h : Chain b l) (hb : b ≤ 125) : (hd l).lv ≤ 125 := by
  cases h with
  | one => exact hb
  | cons e r _ _ h2 _ _ => exact h2
theorem Chain.ov {b : Int} {l : List Ent} (h : Chain b l) : 0 ≤ (hd l).ov ∧ (hd l).ov ≤ 2 := by
  cases h with
  | one => simp [hd, bot]
  | cons e r _ _ _ h3 h4 => exact ⟨h3, h4⟩
theorem Chain.len {b : Int} {l : List Ent} (h : Chain b l) : (l.length : Int) ≤ (hd l).lv - b + 1 := by
  induction h with
  | one => simp [hd, bot]
  | cons e r _ h1 _ _ _ ih => simp only [hd, List.length_cons] at *; omega
theorem Chain.last {b : Int} {l : List Ent} (h : Chain b l) : ∃ r, l = r ++ [bot b] := by
  induction h with
  | one => exact ⟨[], rfl⟩
  | cons e r _ _ _ _ _ ih => obtain ⟨q, rfl⟩ := ih; exact ⟨e :: q, rfl⟩
theorem Chain.more {b : Int} {l : List Ent} (h : Chain b l) (h1 : 1 < l.length) : b < (hd l).lv ∧ Chain b l.tail := by
  cases h with
  | one => simp at h1
  | cons e r hr h2 _ _ _ => have := hr.lo; exact ⟨by simp only [hd]; omega, hr⟩
theorem Chain.only {b : Int} {l : List Ent} (h : Chain b l) (h1 : ¬ 1 < l.length) : l = [bot b] := by
  cases h with
  | one => rfl
  | cons e r hr _ _ _ _ => have := hr.pos; simp only [List.length_cons] at h1; omega
theorem Chain.pi {b : Int} {l : List Ent} (h : Chain b l) (h1 : 0 < cn l) : Chain b (pi l) ∧ cn (Ex.pi l) + 1 = cn l := by
  induction h with
  | one => simp [cn, bot] at h1
  | cons e r hr _ _ _ _ ih =>
    cases he : e.is with
    | true => simp only [Ex.pi, cn, he, if_true]; exact ⟨hr, by omega⟩
    | false =>
      simp only [cn, he] at h1
      have := ih (by simpa using h1)
      simp only [Ex.pi, cn, he]
      simpa using this
theorem cn_le (l : List Ent) : cn l ≤ l.length := by
  induction l with
  | nil => exact Nat.le_refl _
  | cons e r ih => simp only [cn, List.length_cons]; split <;> omega
structure Ok (b : Int) (s : St) (k : Nat) : Prop where
  ch : Chain b s.st
  va : s.va = cn s.st
  oi : s.oi ≤ k
  oe : s.oe ≤ k
theorem Ok.s0 (b : Int) : Ok b (s0 b) 0 := ⟨.one, by simp [Ex.s0, cn, bot], Nat.le_refl _, Nat.le_refl _⟩
theorem Ok.mono {b : Int} {s : St} {k m : Nat} (h : Ok b s k) (hk : k ≤ m) : Ok b s m := ⟨h.ch, h.va, Nat.le_trans h.oi hk, Nat.le_trans h.oe hk⟩
theorem ovr_range (x : Int) : 0 ≤ ovr x ∧ ovr x ≤ 2 := by unfold ovr; split <;> (try split) <;> decide
theorem Ok.emb {b : Int} {s : St} {k : Nat} (h : Ok b s k) (x : Int) : Ok b (emb s x) (k + 1) := by
  have ho := ovr_range x
  have hn := nl_gt (hd s.st).lv (odd x)
  have h1 := h.oi
  have h2 := h.oe
  unfold Ex.emb
  split
  · rename_i hc
    exact ⟨.cons _ _ h.ch hn.1 (can_true hc).1 ho.1 ho.2, by simp [cn, h.va], by simp only; omega, by simp only; omega⟩
  · split
    · exact ⟨h.ch, h.va, by simp only; omega, by simp only; omega⟩
    · exact h.mono (by omega)
theorem Ok.iso {b : Int} {s : St} {k : Nat} (h : Ok b s k) (o : Bool) : Ok b (iso s o) (k + 1) := by
  have hn := nl_gt (hd s.st).lv o
  have h1 := h.oi
  have h2 := h.oe
  unfold Ex.iso
  split
  · rename_i hc
    exact ⟨.cons _ _ h.ch hn.1 (can_true hc).1 (by simp) (by simp), by simp [cn, h.va, Nat.add_comm], by simp only; omega, by simp only; omega⟩
  · exact ⟨h.ch, h.va, by simp only; omega, by simp only; omega⟩
theorem Ok.pdi {b : Int} {s : St} {k : Nat} (h : Ok b s k) : Ok b (pdi s) k := by
  have h1 := h.oi
  have h2 := h.oe
  unfold Ex.pdi
  split
  · exact ⟨h.ch, h.va, by simp only; omega, by simp only; omega⟩
  · split
    · exact h
    · rename_i hv
      have := h.ch.pi (by have := h.va; omega)
      exact ⟨this.1, by have h3 := h.va; have h4 := this.2; simp only; omega, by simp only; omega, by simp only; omega⟩
theorem cn_tail {l : List Ent} (h : (hd l).is = false) : cn l.tail = cn l := by
  cases l with
  | nil => rfl
  | cons e r => simp only [hd] at h; simp [cn, h]
theorem Ok.pdf {b : Int} {s : St} {k : Nat} (h : Ok b s k) : Ok b (pdf s) k := by
  have h1 := h.oi
  have h2 := h.oe
  unfold Ex.pdf
  split
  · exact h
  · split
    · exact ⟨h.ch, h.va, by simp only; omega, by simp only; omega⟩
    · split
      · rename_i hc
        exact ⟨(h.ch.more hc.2).2, by simp only [cn_tail hc.1]; exact h.va, h1, h2⟩
      · exact h
theorem Ok.mid {b : Int} {s : St} {k : Nat} (h : Ok b s k) (x : Int) : Ok b (mid s x) (k + 1) := by
  unfold Ex.mid
  split
  · exact h.emb x
  · split
    · exact h.pdf.mono (by omega)
    · split
      · exact h.pdi.mono (by omega)
      · exact h.mono (by omega)
theorem Ok.step {b : Int} {s : St} {k : Nat} (h : Ok b s k) (x : Int) (r : List Int) : Ok b (step s x r) (k + 1) := by
  unfold Ex.step
  split
  · exact h.iso _
  · exact h.mid x
theorem Ok.at {b : Int} (c : List Int) : ∀ k, Ok b (at' (Ex.s0 b) c k) k := by
  intro k
  induction k with
  | zero => exact Ok.s0 b
  | succ k ih => exact ih.step _ _
/-- A paragraph's classes. -/
def Formed (c : List Int) : Prop := ∀ i, i < c.length → 1 ≤ c.getD i 0 ∧ c.getD i 0 ≤ 23 ∧ (c.getD i 0 = 11 → i + 1 = c.length)
theorem mid_st {s : St} {x : Int} (h : Iso.st x = true) : mid s x = s := by
  have : em x = false ∧ ¬ x = 19 ∧ ¬ x = 23 := by
    unfold Iso.st at h
    simp only [Bool.or_eq_true, beq_iff_eq] at h
    rcases h with (rfl | rfl) | rfl <;> decide
  unfold mid
  rw [this.1, if_neg (by decide), if_neg this.2.1, if_neg this.2.2]
theorem step_em (s : St) (x : Int) (r : List Int) (h : em x = true) : step s x r = emb s x := by
  have hs : Iso.st x = false := by
    unfold em at h
    simp only [Bool.or_eq_true, beq_iff_eq] at h
    rcases h with ((rfl | rfl) | rfl) | rfl <;> decide
  unfold step mid
  rw [hs, h]; rfl
theorem step_pdf (s : St) (r : List Int) : step s 19 r = pdf s := rfl
theorem step_pdi (s : St) (r : List Int) : step s 23 r = pdi s := rfl
end Go.Proofs.YtmdmehopefgndaaGreatDoor.Ex

/- Explicit levels: what an isolate leaves behind; plain paragraphs; plain mathematics. -/
namespace Go.Proofs.YtmdmehopefgndaaGreatDoor.Ex
set_option linter.unusedVariables false
theorem cn_append (E T : List Ent) : cn (E ++ T) = cn E + cn T := by
  induction E with
  | nil => simp [cn]
  | cons e r ih => rw [List.cons_append, cn, cn, ih]; omega
theorem pi_pos {E : List Ent} (T : List Ent) (h : 0 < cn E) : ∃ E', pi (E ++ T) = E' ++ T ∧ cn E' + 1 = cn E := by
  induction E with
  | nil => simp [cn] at h
  | cons e r ih =>
    cases he : e.is with
    | true => exact ⟨r, by simp [pi, he], by simp [cn, he]; omega⟩
    | false =>
      obtain ⟨E', h1, h2⟩ := ih (by simpa [cn, he] using h)
      exact ⟨E', by simpa [pi, he] using h1, by simpa [cn, he] using h2⟩
theorem pi_zero {E : List Ent} {e0 : Ent} (T : List Ent) (h : cn E = 0) (h0 : e0.is = true) : pi (E ++ e0 :: T) = T := by
  induction E with
  | nil => simp [pi, h0]
  | cons e r ih =>
    cases he : e.is with
    | true => simp [cn, he] at h
    | false => simp only [List.cons_append, pi, he]; exact ih (by simpa [cn, he] using h)
/-- Within an isolate that began at S0, d others open within it. -/
def In (S0 : St) (e0 : Ent) (v : Bool) (S : St) (d : Nat) : Prop :=
  (v = true ∧ ∃ E, S.st = E ++ e0 :: S0.st ∧ S.oi + cn E = d ∧ S.va = S0.va + 1 + cn E) ∨ (v = false ∧ S = ⟨S0.st, S0.oi + 1 + d, S0.oe, S0.va⟩)
theorem In.emb {S0 : St} {e0 : Ent} {v : Bool} {S : St} {d : Nat} (h : In S0 e0 v S d) (x : Int) : In S0 e0 v (emb S x) d := by
  rcases h with ⟨hv, E, h1, h2, h3⟩ | ⟨hv, rfl⟩
  · refine .inl ⟨hv, ?_⟩
    unfold Ex.emb
    split
    · exact ⟨_ :: E, by simp only [h1]; rfl, by simp only [cn]; simpa using h2, by simp only [cn]; simpa using h3⟩
    · split
      · exact ⟨E, h1, h2, h3⟩
      · exact ⟨E, h1, h2, h3⟩
  · refine .inr ⟨hv, ?_⟩
    unfold Ex.emb
    rw [if_neg (by rw [can_oi (by simp only; omega)]; decide), if_neg (by simp only; omega)]
theorem In.iso {S0 : St} {e0 : Ent} {v : Bool} {S : St} {d : Nat} (h : In S0 e0 v S d) (o : Bool) : In S0 e0 v (iso S o) (d + 1) := by
  rcases h with ⟨hv, E, h1, h2, h3⟩ | ⟨hv, rfl⟩
  · refine .inl ⟨hv, ?_⟩
    unfold Ex.iso
    split
    · refine ⟨_ :: E, by simp only [h1]; rfl, ?_, ?_⟩
      · simp only [cn, if_true]; omega
      · simp only [cn, if_true]; omega
    · exact ⟨E, h1, by simp only; omega, h3⟩
  · refine .inr ⟨hv, ?_⟩
    unfold Ex.iso
    rw [if_neg (by rw [can_oi (by simp only; omega)]; decide)]
    simp only [St.mk.injEq, true_and, and_true]
    omega
theorem In.pdf {S0 : St} {e0 : Ent} {v : Bool} {S : St} {d : Nat} (h : In S0 e0 v S d) (h0 : e0.is = true) : In S0 e0 v (pdf S) d := by
  rcases h with ⟨hv, E, h1, h2, h3⟩ | ⟨hv, rfl⟩
  · refine .inl ⟨hv, ?_⟩
    unfold Ex.pdf
    split
    · exact ⟨E, h1, h2, h3⟩
    · split
      · exact ⟨E, h1, h2, h3⟩
      · split
        · rename_i hc
          cases E with
          | nil => rw [h1] at hc; simp [hd, h0] at hc
          | cons e r =>
            have he : e.is = false := by rw [h1] at hc; exact hc.1
            refine ⟨r, by simp only [h1]; rfl, ?_, ?_⟩
            · simp only [cn, he] at h2; simpa using h2
            · simp only [cn, he] at h3; simpa using h3
        · exact ⟨E, h1, h2, h3⟩
  · refine .inr ⟨hv, ?_⟩
    unfold Ex.pdf
    rw [if_pos (by simp only; omega)]
theorem In.pdi {S0 : St} {e0 : Ent} {v : Bool} {S : St} {d : Nat} (h : In S0 e0 v S (d + 1)) : In S0 e0 v (pdi S) d := by
  rcases h with ⟨hv, E, h1, h2, h3⟩ | ⟨hv, rfl⟩
  · refine .inl ⟨hv, ?_⟩
    unfold Ex.pdi
    split
    · exact ⟨E, h1, by simp only; omega, h3⟩
    · rw [if_neg (by omega)]
      obtain ⟨E', g1, g2⟩ := pi_pos (e0 :: S0.st) (E := E) (by omega)
      exact ⟨E', by simp only [h1]; exact g1, by simp only; omega, by simp only; omega⟩
  · refine .inr ⟨hv, ?_⟩
    unfold Ex.pdi
    rw [if_pos (by simp only; omega)]
    simp only [St.mk.injEq, true_and, and_true]
    omega
theorem In.out {S0 : St} {e0 : Ent} {v : Bool} {S : St} (h : In S0 e0 v S 0) (h0 : e0.is = true) (hv : v = true → S0.oi = 0 ∧ S0.oe = 0) : Ex.pdi S = S0 := by
  rcases h with ⟨h4, E, h1, h2, h3⟩ | ⟨h4, rfl⟩
  · unfold Ex.pdi
    rw [if_neg (by omega), if_neg (by omega), h1, pi_zero _ (by omega) h0]
    obtain ⟨g1, g2⟩ := hv h4
    obtain ⟨st, oi, oe, va⟩ := S0
    simp only [St.mk.injEq, true_and] at *
    omega
  · unfold Ex.pdi
    rw [if_pos (by simp only; omega)]
    rfl
theorem In.mid {S0 : St} {e0 : Ent} {v : Bool} {S : St} {d : Nat} (h : In S0 e0 v S d) (h0 : e0.is = true) (x : Int) (hx : ¬ x = 23) : In S0 e0 v (mid S x) d := by
  unfold Ex.mid
  split
  · exact h.emb x
  · split
    · exact h.pdf h0
    · exact h
theorem In.begin (S0 : St) (o : Bool) : In S0 ⟨nl (hd S0.st).lv o, 0, true⟩ (can S0 o) (Ex.iso S0 o) 0 := by
  cases hc : can S0 o with
  | true => exact .inl ⟨rfl, [], by unfold Ex.iso; rw [if_pos hc]; rfl, by unfold Ex.iso; rw [if_pos hc]; simp [cn, (can_true hc).2.1], by unfold Ex.iso; rw [if_pos hc]; simp [cn]⟩
  | false => exact .inr ⟨rfl, by unfold Ex.iso; rw [if_neg (by rw [hc]; decide)]⟩
/-- AN ISOLATE LEAVES ALL AS IT WAS. -/
theorem at_pair (s : St) {c : List Int} {i : Nat} (h : Iso.st (c.getD i 0) = true) (hn : Iso.partner c i < c.length) : at' s c (Iso.partner c i + 1) = at' s c i := by
  obtain ⟨o, ho⟩ : ∃ o, wo (c.getD i 0) (c.drop (i + 1)) = o := ⟨_, rfl⟩
  have hbeg : at' s c (i + 1) = Ex.iso (at' s c i) o := by rw [at_succ, step, if_pos h, ho]
  have key : ∀ m, i + 1 + m ≤ Iso.partner c i → ∃ d, (Iso.stk c (i + 1 + m)).length = (Iso.stk c i).length + 1 + d ∧ In (at' s c i) ⟨nl (hd (at' s c i).st).lv o, 0, true⟩ (can (at' s c i) o) (at' s c (i + 1 + m)) d := by
    intro m
    induction m with
    | zero => intro _; exact ⟨0, by rw [Nat.add_zero, Iso.stk_init c i h]; simp, by rw [Nat.add_zero, hbeg]; exact In.begin _ _⟩
    | succ m ih =>
      intro hm
      obtain ⟨d, h1, h2⟩ := ih (by omega)
      obtain ⟨l', g1, _⟩ := Iso.stk_mid h (j := i + 1 + (m + 1)) (by omega) hm
      have g2 : (Iso.stk c (i + 1 + (m + 1))).length ≥ (Iso.stk c i).length + 1 := by rw [g1]; simp
      have hnx := Iso.stk_nx c (i + 1 + m)
      rw [show i + 1 + (m + 1) = i + 1 + m + 1 from by omega] at g2 ⊢
      rw [at_succ]
      rw [h1] at hnx
      by_cases hs : Iso.st (c.getD (i + 1 + m) 0) = true
      · refine ⟨d + 1, ?_, ?_⟩
        · rw [hnx, Iso.nx, if_pos hs]; omega
        · rw [step, if_pos hs]; exact h2.iso _
      · rw [step, if_neg hs]
        by_cases hx : c.getD (i + 1 + m) 0 = 23
        · rw [Iso.nx, if_neg hs, if_pos hx] at hnx
          obtain ⟨d', rfl⟩ : ∃ d', d = d' + 1 := ⟨d - 1, by omega⟩
          refine ⟨d', by omega, ?_⟩
          rw [hx]
          exact h2.pdi
        · rw [Iso.nx, if_neg hs, if_neg hx] at hnx
          exact ⟨d, by omega, h2.mid rfl _ hx⟩
  have hg := Iso.partner_gt c i
  obtain ⟨d, h1, h2⟩ := key (Iso.partner c i - (i + 1)) (by omega)
  rw [show i + 1 + (Iso.partner c i - (i + 1)) = Iso.partner c i from by omega] at h1 h2
  obtain ⟨p1, p2, _⟩ := Iso.partner_pdi h hn
  rw [p2] at h1
  obtain rfl : d = 0 := by simp at h1; omega
  rw [at_succ, p1, step_pdi]
  exact h2.out rfl (fun hc => (can_true hc).2)
theorem st_kept {x : Int} (h : Iso.st x = true) : rm x = false ∧ ¬ x = 11 ∧ ¬ x = 1 ∧ ¬ x = 2 := by
  unfold Iso.st at h
  simp only [Bool.or_eq_true, beq_iff_eq] at h
  rcases h with (rfl | rfl) | rfl <;> decide
theorem tl_kept {b : Int} {S : St} {x : Int} (h : rm x = false) (hx : ¬ x = 11) : tl b S x = (hd S.st).lv ∧ ty S x = if (hd S.st).ov = 0 then x else (hd S.st).ov := by
  unfold tl ty
  simp [h, hx]
/-- An initiator and its PDI have one level, and one override. -/
theorem lev_pair (b : Int) (s : St) {c : List Int} {i : Nat} (h : Iso.st (c.getD i 0) = true) (hn : Iso.partner c i < c.length) :
    lev b s c (Iso.partner c i) = lev b s c i ∧ ∃ ov, ov = (hd (at' s c i).st).ov ∧ typ s c i = (if ov = 0 then c.getD i 0 else ov) ∧ typ s c (Iso.partner c i) = (if ov = 0 then 23 else ov) := by
  have hp := at_pair s h hn
  obtain ⟨p1, _, _⟩ := Iso.partner_pdi h hn
  have hm : mid (at' s c (Iso.partner c i)) (c.getD (Iso.partner c i) 0) = at' s c i := by rw [← hp, at_succ, p1]; rfl
  obtain ⟨k1, k2, _⟩ := st_kept h
  have e1 := tl_kept (b := b) (S := at' s c i) k1 k2
  have e2 := tl_kept (b := b) (S := at' s c i) (x := 23) (by decide) (by decide)
  refine ⟨?_, _, rfl, ?_, ?_⟩
  · unfold lev; rw [hm, mid_st h, p1, e1.1, e2.1]
  · unfold typ; rw [mid_st h, e1.2]
  · unfold typ; rw [hm, p1, e2.2]
/-- No embeddings, overrides and initiators ahead of a place. -/
def pl (c : List Int) : Nat → Bool
  | 0 => true
  | k + 1 => pl c k && !(em (c.getD k 0)) && !(Iso.st (c.getD k 0))
theorem mid_s0 {b : Int} {x : Int} (h : em x = false) : mid (s0 b) x = s0 b := by
  unfold mid
  rw [h, if_neg (by decide)]
  split
  · rfl
  · split
    · rfl
    · rfl
theorem pl_at {b : Int} {c : List Int} : ∀ k, pl c k = true → at' (s0 b) c k = s0 b := by
  intro k
  induction k with
  | zero => intro _; rfl
  | succ k ih =>
    intro h
    simp only [pl, Bool.and_eq_true, Bool.not_eq_true'] at h
    rw [at_succ, ih h.1.1, step, if_neg (by rw [h.2]; decide), mid_s0 h.1.2]
theorem pl_mono {c : List Int} {k : Nat} : ∀ m, pl c (k + m) = true → pl c k = true := by
  intro m
  induction m with
  | zero => intro h; exact h
  | succ m ih =>
    intro h
    rw [show k + (m + 1) = k + m + 1 from by omega] at h
    simp only [pl, Bool.and_eq_true] at h
    exact ih h.1.1
theorem pl_lev {b : Int} {c : List Int} {n k : Nat} (h : pl c n = true) (hk : k < n) : (lev b (s0 b) c k = b ∨ lev b (s0 b) c k = -1) ∧ typ (s0 b) c k = c.getD k 0 := by
  have h1 : pl c (k + 1) = true := pl_mono (n - (k + 1)) (by rw [show k + 1 + (n - (k + 1)) = n from by omega]; exact h)
  have h2 : pl c k = true := pl_mono 1 h1
  simp only [pl, Bool.and_eq_true, Bool.not_eq_true'] at h1
  unfold lev typ
  rw [pl_at k h2, mid_s0 h1.1.2]
  generalize c.getD k 0 = x at *
  unfold tl ty
  constructor
  · split
    · exact .inr rfl
    · left
      split
      · rfl
      · rfl
  · split
    · rfl
    · split
      · rfl
      · rfl
end Go.Proofs.YtmdmehopefgndaaGreatDoor.Ex
