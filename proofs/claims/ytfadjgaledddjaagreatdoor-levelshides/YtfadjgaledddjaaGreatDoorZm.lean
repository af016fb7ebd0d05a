import Derived.Test.YtfadjgaledddjaaGreatDoorZh
import Derived.Test.YtfadjgaledddjaaGreatDoorZk
import Derived.Test.YtfadjgaledddjaaGreatDoorZf
import Derived.Test.YtfadjgaledddjaaGreatDoorZj
import Derived.Test.YtfadjgaledddjaaGreatDoorZi
/- Types of one direction, with blanks and signs: what the rules make of them: plain mathematics. -/
namespace Go.Proofs.YtfadjgaledddjaaGreatDoor
set_option linter.unusedVariables false
namespace We
theorem R_step {r : Nat} {s : Int} {t : List Int} {Q : Int → Prop} (hs : Q s) (h : ∀ i, i < t.length → ∀ p, Q p → Q (one r s t i p)) : ∀ i, i < (R r s t).length → Q ((R r s t).getD i 0) := by
  have key : ∀ i, i ≤ t.length → Q (pv r s t i) := by
    intro i
    induction i with
    | zero => intro _; exact hs
    | succ i ih => intro hi; rw [pv_succ]; exact h i (by omega) _ (ih (by omega))
  intro i hi
  rw [R_len] at hi
  rw [R_at hi]
  exact key _ (by omega)
/-- Types of one direction, blanks, signs, marks. -/
def P1 (p x : Int) : Prop := x = p ∨ (p = 2 ∧ x = 3) ∨ x = 13 ∨ x = 14 ∨ x = 8 ∨ x = 5 ∨ x = 9
def P2 (p x : Int) : Prop := x = p ∨ (p = 2 ∧ x = 3) ∨ x = 13 ∨ x = 14 ∨ x = 8 ∨ x = 5
def P3 (p x : Int) : Prop := x = p ∨ x = 13 ∨ x = 14 ∨ x = 8 ∨ x = 5
def P4 (p x : Int) : Prop := x = p ∨ x = 13 ∨ x = 14
theorem getD_or {t : List Int} {Q : Int → Prop} (h : ∀ i, i < t.length → Q (t.getD i 0)) (i : Nat) : Q (t.getD i 0) ∨ t.getD i 0 = 0 := by
  rcases Nat.lt_or_ge i t.length with q | q
  · exact .inl (h i q)
  · exact .inr (getD_out q)
/-- What all rules leave of them. -/
theorem plain_types {p : Int} (hp : p = 1 ∨ p = 2) {t : List Int} (h : ∀ i, i < t.length → P1 p (t.getD i 0)) : ∀ i, i < (RR p t 7).length → P4 p ((RR p t 7).getD i 0) := by
  have h1 : ∀ i, i < (RR p t 1).length → P2 p ((RR p t 1).getD i 0) := by
    refine R_step (r := 1) (t := t) (Q := P2 p) (.inl rfl) fun i hi q hq => ?_
    have := h i hi
    show P2 p (if t.getD i 0 = 9 then mk q else t.getD i 0)
    unfold P2 P1 mk at *
    split <;> (try split) <;> omega
  have h2 : ∀ i, i < (RR p t 2).length → P2 p ((RR p t 2).getD i 0) := by
    refine R_step (r := 2) (t := RR p t 1) (Q := P2 p) (.inl rfl) fun i hi q hq => ?_
    have := h1 i hi
    show P2 p (if (RR p t 1).getD i 0 = 4 ∧ strong (RR p t 1) p i = 3 then 7 else (RR p t 1).getD i 0)
    unfold P2 at *
    split <;> omega
  have h3 : ∀ i, i < (RR p t 3).length → P3 p ((RR p t 3).getD i 0) := by
    refine R_step (r := 3) (t := RR p t 2) (Q := P3 p) (.inl rfl) fun i hi q hq => ?_
    have := h2 i hi
    show P3 p (if (RR p t 2).getD i 0 = 3 then 2 else (RR p t 2).getD i 0)
    unfold P2 P3 at *
    split <;> omega
  have h4 : ∀ i, i < (RR p t 4).length → P3 p ((RR p t 4).getD i 0) := by
    refine R_step (r := 4) (t := RR p t 3) (Q := P3 p) (.inl rfl) fun i hi q hq => ?_
    have := h3 i hi
    have h' := getD_or h3 (i + 1)
    show P3 p (if q = (RR p t 3).getD (i + 1) 0 ∧ (((RR p t 3).getD i 0 = 5 ∧ (RR p t 3).getD (i + 1) 0 = 4) ∨ ((RR p t 3).getD i 0 = 8 ∧ ((RR p t 3).getD (i + 1) 0 = 4 ∨ (RR p t 3).getD (i + 1) 0 = 7))) then (RR p t 3).getD (i + 1) 0 else (RR p t 3).getD i 0)
    unfold P3 at *
    split <;> omega
  have h5 : ∀ i, i < (RR p t 5).length → P3 p ((RR p t 5).getD i 0) := by
    refine R_step (r := 5) (t := RR p t 4) (Q := P3 p) (.inl rfl) fun i hi q hq => ?_
    have := h4 i hi
    show P3 p (if (RR p t 4).getD i 0 = 6 ∧ (lf (RR p t 4) i = 4 ∨ rt ((RR p t 4).drop i) = 4) then 4 else (RR p t 4).getD i 0)
    unfold P3 at *
    split <;> omega
  have h6 : ∀ i, i < (RR p t 6).length → P4 p ((RR p t 6).getD i 0) := by
    refine R_step (r := 6) (t := RR p t 5) (Q := P4 p) (.inl rfl) fun i hi q hq => ?_
    have := h5 i hi
    show P4 p (if (RR p t 5).getD i 0 = 5 ∨ (RR p t 5).getD i 0 = 6 ∨ (RR p t 5).getD i 0 = 8 then 14 else (RR p t 5).getD i 0)
    unfold P3 P4 at *
    split <;> omega
  refine R_step (r := 7) (t := RR p t 6) (Q := P4 p) (.inl rfl) fun i hi q hq => ?_
  have := h6 i hi
  show P4 p (if (RR p t 6).getD i 0 = 4 ∧ strong (RR p t 6) p i = 1 then 1 else (RR p t 6).getD i 0)
  unfold P4 at *
  split <;> omega
end We
namespace Ne
theorem sd_p {p : Int} (hp : p = 1 ∨ p = 2) : sd p = p := by rcases hp with rfl | rfl <;> decide
theorem ah_plain {t : List Int} {p : Int} (h : ∀ i, sd (t.getD i 0) = 0 ∨ sd (t.getD i 0) = p) : ∀ k, ah t p k = p := by
  intro k
  induction k with
  | zero => rfl
  | succ k ih =>
    rw [ah_succ]
    split
    · exact ih
    · exact (h k).resolve_left ‹_›
theorem getD_q {t : List Int} {Q : Int → Prop} (h : ∀ i, i < t.length → Q (t.getD i 0)) (h0 : Q 0) (i : Nat) : Q (t.getD i 0) := by
  rcases Nat.lt_or_ge i t.length with q | q
  · exact h i q
  · rw [show t.getD i 0 = 0 from by simp [List.getD, List.getElem?_eq_none q]]; exact h0
/-- One direction alone, and blanks and signs: all get it. -/
theorem plain_sides {t : List Int} {p lv : Int} (hp : p = 1 ∨ p = 2) (h : ∀ i, i < t.length → t.getD i 0 = p ∨ sd (t.getD i 0) = 0) {i : Nat} (hi : i < t.length) : (RS t lv p p).getD i 0 = p := by
  have h1 : ∀ j, sd (t.getD j 0) = 0 ∨ sd (t.getD j 0) = p := getD_q (Q := fun x => sd x = 0 ∨ sd x = p) (fun j hj => by
    rcases h j hj with q | q
    · exact .inr (by rw [q]; exact sd_p hp)
    · exact .inl q) (.inl (by decide))
  have h2 : ∀ j, sd (t.reverse.getD j 0) = 0 ∨ sd (t.reverse.getD j 0) = p := getD_q (Q := fun x => sd x = 0 ∨ sd x = p) (fun j hj => by
    rw [List.length_reverse] at hj
    rw [getD_rev t hj]; exact h1 _) (.inl (by decide))
  rw [RS_at _ _ _ _ hi]
  unfold r1
  rw [ah_plain h1, ah_plain h2, if_pos rfl]
  split
  · rfl
  · rename_i hs
    exact (h i hi).resolve_right hs
theorem plain_levels {t : List Int} {p lv : Int} (hp : (p = 1 ∧ lv = 0) ∨ (p = 2 ∧ lv = 1)) (h : ∀ i, i < t.length → t.getD i 0 = p) {i : Nat} (hi : i < t.length) : (LS t lv).getD i 0 = lv := by
  rw [LS_at _ _ hi, h i hi]
  rcases hp with ⟨rfl, rfl⟩ | ⟨rfl, rfl⟩ <;> decide
/-- How far implicit levels go. -/
theorem lv1_hi {lv x : Int} (h0 : 0 ≤ lv) (h : lv ≤ 125) (hx : sd x ≠ 0) : lv ≤ lv1 lv x ∧ lv1 lv x ≤ 126 := by
  have h1 := lv1_two (lv := lv) hx
  refine ⟨h1.1, ?_⟩
  have hc := sided_cases hx
  unfold lv1
  split
  · split
    · omega
    · split <;> omega
  · split <;> omega
theorem levels_range {t : List Int} {lv so eo : Int} (h0 : 0 ≤ lv) (h : lv ≤ 125) (hso : so = 1 ∨ so = 2) {i : Nat} (hi : i < t.length) : lv ≤ (LS (RS t lv so eo) lv).getD i 0 ∧ (LS (RS t lv so eo) lv).getD i 0 ≤ 126 := by
  rw [LS_at _ _ (by rw [RS_len]; exact hi)]
  refine lv1_hi h0 h ?_
  obtain ⟨k1, k2⟩ := keeps t lv so eo hso hi
  by_cases hs : sd (t.getD i 0) = 0
  · rcases k2 hs with e | e <;> rw [e] <;> decide
  · rw [k1 hs]; exact hs
/-- The last place of a sequence, if it has no side, and what stands behind is the level's: the level. -/
theorem levels_last {t : List Int} {b so : Int} (hb : b = 0 ∨ b = 1) (h0 : 0 < t.length) (hs : sd (t.getD (t.length - 1) 0) = 0) : (LS (RS t b so (1 + b)) b).getD (t.length - 1) 0 = b := by
  rw [LS_at _ _ (by rw [RS_len]; omega), RS_at _ _ _ _ (by omega)]
  have e1 : ah t.reverse (1 + b) (t.length - (t.length - 1)) = 1 + b := by
    rw [show t.length - (t.length - 1) = 0 + 1 by omega, ah_succ, getD_rev t (by omega), show t.length - 1 - 0 = t.length - 1 by omega, if_pos hs]
    rfl
  have e2 : r1 t b so (1 + b) (t.length - 1) = 1 + b := by
    unfold r1
    rw [if_pos hs, e1]
    split
    · assumption
    · rcases hb with rfl | rfl <;> decide
  rw [e2]
  rcases hb with rfl | rfl <;> decide
end Ne
end Go.Proofs.YtfadjgaledddjaaGreatDoor

/- What the rules of chapters 9 to 11, one behind the other, make of a sequence: plain mathematics. -/
namespace Go.Proofs.YtfadjgaledddjaaGreatDoor.Rn
set_option linter.unusedVariables false
/-- Types behind weak and bracket; levels. pp: which brackets are pairs. -/
def T9 (ty : List Int) (so : Int) : List Int := We.RR so ty 7
def T10 (pp : List Int → List Int → List (Nat × Nat)) (tx ty : List Int) (lv so : Int) : List Int := Br.rs ty (Br.es lv) so (T9 ty so) (pp tx (T9 ty so))
def F12 (pp : List Int → List Int → List (Nat × Nat)) (tx ty : List Int) (lv so eo : Int) : List Int := Ne.LS (Ne.RS (T10 pp tx ty lv so) lv so eo) lv
theorem T9_len (ty : List Int) (so : Int) : (T9 ty so).length = ty.length := We.RR_len _ _ _
theorem T10_len (pp : List Int → List Int → List (Nat × Nat)) (tx ty : List Int) (lv so : Int) : (T10 pp tx ty lv so).length = ty.length := by unfold T10; rw [Br.rs_len, T9_len]
theorem F12_len (pp : List Int → List Int → List (Nat × Nat)) (tx ty : List Int) (lv so eo : Int) : (F12 pp tx ty lv so eo).length = ty.length := by unfold F12; rw [Ne.LS_len, Ne.RS_len, T10_len]
theorem fine12 {pp : List Int → List Int → List (Nat × Nat)} (hpp : ∀ tx T, ∀ q ∈ pp tx T, T.getD q.1 0 = 14 ∧ T.getD q.2 0 = 14) : Fine (F12 pp) := by
  refine ⟨fun tx ty lv so eo => F12_len pp tx ty lv so eo, ?_, ?_⟩
  · intro tx ty lv so eo h0 h1 hso heo m hm
    exact Ne.levels_range h0 h1 hso (by rw [T10_len]; exact hm)
  · intro tx ty b so hb hso h0 hx
    have hl := T10_len pp tx ty b so
    have e9 : (T9 ty so).getD (ty.length - 1) 0 = 11 := by
      have := We.kept_RR (s := so) (t := ty) (i := ty.length - 1) (by omega) (by rw [hx]; unfold We.Kept; omega) 7
      unfold T9
      rw [this, hx]
    have e10 : (T10 pp tx ty b so).getD (ty.length - 1) 0 = 11 := by
      unfold T10
      rw [Br.rs_other ty (Br.es b) so (by rw [hx]; decide) _ _ (fun q hq => ?_), e9]
      obtain ⟨q1, q2⟩ := hpp _ _ q hq
      refine ⟨fun e => ?_, fun e => ?_⟩
      · rw [e, e9] at q1; exact absurd q1 (by decide)
      · rw [e, e9] at q2; exact absurd q2 (by decide)
    have := Ne.levels_last (t := T10 pp tx ty b so) (b := b) (so := so) hb (by omega) (by rw [hl, e10]; decide)
    rw [hl] at this
    exact this
/-- One direction alone, with blanks and signs, and no pair. -/
theorem plain12 {pp : List Int → List Int → List (Nat × Nat)} {p lv : Int} (hp : (p = 1 ∧ lv = 0) ∨ (p = 2 ∧ lv = 1)) {tx ty : List Int} (h : ∀ i, i < ty.length → We.P1 p (ty.getD i 0)) (hno : pp tx (T9 ty p) = []) {m : Nat} (hm : m < ty.length) : (F12 pp tx ty lv p p).getD m 0 = lv := by
  have h9 := We.plain_types (p := p) (by omega) h
  have e10 : T10 pp tx ty lv p = T9 ty p := by unfold T10; rw [hno]; unfold Br.rs; rw [List.foldl_nil]
  unfold F12
  rw [e10]
  have hl := T9_len ty p
  refine Ne.plain_levels hp (fun i hi => ?_) (by rw [Ne.RS_len, hl]; exact hm)
  rw [Ne.RS_len] at hi
  have h9 : ∀ j, j < (T9 ty p).length → We.P4 p ((T9 ty p).getD j 0) := h9
  generalize T9 ty p = T at *
  refine Ne.plain_sides (by omega) (fun j hj => ?_) hi
  rcases h9 j hj with e | e | e
  · exact .inl e
  · right; rw [e]; decide
  · right; rw [e]; decide
end Go.Proofs.YtfadjgaledddjaaGreatDoor.Rn

/- The types of a sequence may come in at each chapter: plain mathematics. -/
namespace Go.Proofs.YtfadjgaledddjaaGreatDoor.Rn
set_option linter.unusedVariables false
open Ex (lev LV TY rm Formed)
theorem may_ty {b : Int} (hb : b = 0 ∨ b = 1) {c : List Int} (hF : Formed c) {i : Nat} (hi : i < c.length) (hk : kp (LV b c) i = true) : We.May ((TY b c).getD i 0) := by
  have hr : rm (c.getD i 0) = false := by have := hk; rw [kp_rm hb hi] at this; simpa using this
  obtain ⟨f1, f2, _⟩ := hF i hi
  rw [Ex.TY_at b c i hi]
  have hok := (Ex.Ok.at (b := b) c i).mid (c.getD i 0)
  have hov := hok.ch.ov
  unfold Ex.typ Ex.ty
  rw [if_neg (by rw [hr]; decide)]
  have hc : We.May (c.getD i 0) := by
    generalize c.getD i 0 = x at *
    unfold Ex.rm at hr
    simp only [Bool.or_eq_false_iff, beq_eq_false_iff_ne] at hr
    unfold We.May
    omega
  split
  · exact hc
  · split
    · exact hc
    · rename_i h0
      generalize (Ex.hd (Ex.mid (Ex.at' (Ex.s0 b) c i) (c.getD i 0)).st).ov = o at *
      unfold We.May
      omega
theorem ok_ty {b : Int} (hb : b = 0 ∨ b = 1) {c : List Int} (hF : Formed c) {s : Sq} (hs : s ∈ SQ b c) : We.Ok (pk (TY b c) s.places) := by
  have hE := SQ_ends hb hF s hs
  intro m hm
  rw [pk_len] at hm
  rw [pk_at _ _ hm]
  obtain ⟨h1, h2, _⟩ := hE.kept _ (getD_mem hm)
  exact may_ty hb hF h1 h2
theorem t9_may {ty : List Int} (h : We.Ok ty) {so : Int} (hs : so = 1 ∨ so = 2) {m : Nat} (hm : m < ty.length) : Br.may ((T9 ty so).getD m 0) = true := by
  have h1 : We.May ((T9 ty so).getD m 0) := We.Ok.RR hs h 7 m (by rw [We.RR_len]; exact hm)
  have g := fun x hx => We.gone (s := so) hs ty x hx m (by rw [We.RR_len]; exact hm)
  have g9 := g 9 (by omega)
  have g3 := g 3 (by omega)
  have g5 := g 5 (by omega)
  have g6 := g 6 (by omega)
  have g8 := g 8 (by omega)
  change ¬ (T9 ty so).getD m 0 = 9 at g9
  change ¬ (T9 ty so).getD m 0 = 3 at g3
  change ¬ (T9 ty so).getD m 0 = 5 at g5
  change ¬ (T9 ty so).getD m 0 = 6 at g6
  change ¬ (T9 ty so).getD m 0 = 8 at g8
  generalize (T9 ty so).getD m 0 = x at *
  unfold We.May at h1
  unfold Br.may
  simp only [Bool.or_eq_true, beq_iff_eq]
  omega
theorem rs_may (was : List Int) (e s : Int) (he : e = 1 ∨ e = 2) (j : Nat) : ∀ (ps : List (Nat × Nat)) (t : List Int), Br.may (t.getD j 0) = true → Br.may ((Br.rs was e s t ps).getD j 0) = true
  | [], t, h => h
  | p :: r, t, h => by
    rw [Br.rs, List.foldl_cons, ← Br.rs]
    refine rs_may was e s he j r _ ?_
    unfold Br.one
    by_cases h0 : Br.dr t p e s = 0
    · rw [if_pos h0]; exact h
    · rw [if_neg h0, Br.two_at]
      split
      · rcases (Br.dr_cases he).resolve_left h0 with q | q <;> rw [q] <;> rfl
      · exact h
theorem t10_may {pp : List Int → List Int → List (Nat × Nat)} {tx ty : List Int} (h : We.Ok ty) {lv so : Int} (hs : so = 1 ∨ so = 2) {m : Nat} (hm : m < ty.length) : Br.may ((T10 pp tx ty lv so).getD m 0) = true :=
  rs_may _ _ _ (Br.es_cases lv) _ _ _ (t9_may h hs hm)
theorem may_ne {x : Int} (h : Br.may x = true) : Ne.May x := by
  unfold Br.may at h
  simp only [Bool.or_eq_true, beq_iff_eq] at h
  unfold Ne.May
  rcases h with ((((((((((h | h) | h) | h) | h) | h) | h) | h) | h) | h) | h) | h <;> subst h <;> decide
theorem t10_ok {pp : List Int → List Int → List (Nat × Nat)} {tx ty : List Int} (h : We.Ok ty) {lv so : Int} (hs : so = 1 ∨ so = 2) : Ne.Ok (T10 pp tx ty lv so) := by
  intro m hm
  rw [T10_len] at hm
  exact may_ne (t10_may h hs hm)
theorem t9_all {ty : List Int} (h : We.Ok ty) {so : Int} (hs : so = 1 ∨ so = 2) : (T9 ty so).all Br.may = true := by
  rw [List.all_eq_true]
  intro x hx
  obtain ⟨m, hm, rfl⟩ := List.mem_iff_getElem.1 hx
  rw [T9_len] at hm
  have := t9_may h hs hm
  simpa [List.getD, hm, T9_len] using this
theorem rs_sided (t : List Int) (lv so eo : Int) (hso : so = 1 ∨ so = 2) : Ne.Sided (Ne.RS t lv so eo) := by
  intro i hi
  rw [Ne.RS_len] at hi
  obtain ⟨k1, k2⟩ := Ne.keeps t lv so eo hso hi
  by_cases hs : Ne.sd (t.getD i 0) = 0
  · rcases k2 hs with e | e <;> rw [e] <;> decide
  · rw [k1 hs]; exact hs
/-- A sequence's level and sides are such as may come in. -/
theorem sq_good {b : Int} (hb : b = 0 ∨ b = 1) {c : List Int} (hF : Formed c) {s : Sq} (hs : s ∈ SQ b c) : 0 ≤ s.lvl ∧ s.lvl ≤ 125 ∧ (s.sos = 1 ∨ s.sos = 2) ∧ (s.eos = 1 ∨ s.eos = 2) ∧ 0 < s.places.length := by
  have hE := SQ_ends hb hF s hs
  obtain ⟨v, _, e1⟩ := hE.sos
  obtain ⟨u, _, e2⟩ := hE.eos
  obtain ⟨k1, k2, k3⟩ := hE.kept _ (getD_mem hE.mx.pos)
  have hh := LV_hi hb k1 k2
  rw [k3] at hh
  exact ⟨by omega, hh.2, by rw [e1]; exact sd_two _ _, by rw [e2]; exact sd_two _ _, hE.mx.pos⟩
end Go.Proofs.YtfadjgaledddjaaGreatDoor.Rn

/- The list of levels as sequences are written into it, place by place: plain mathematics. -/
namespace Go.Proofs.YtfadjgaledddjaaGreatDoor.Rn
set_option linter.unusedVariables false
open Ex (lev LV TY rm Formed)
/-- A list some places of which have their values. -/
def WL (V : Nat → Int) (lv : List Int) (ps : List Nat) : List Int := (List.range lv.length).map fun i => if i ∈ ps then V i else lv.getD i 0
theorem WL_len (V : Nat → Int) (lv : List Int) (ps : List Nat) : (WL V lv ps).length = lv.length := by simp [WL]
theorem WL_at (V : Nat → Int) (lv : List Int) (ps : List Nat) {i : Nat} (hi : i < lv.length) : (WL V lv ps).getD i 0 = if i ∈ ps then V i else lv.getD i 0 := by simp [WL, List.getD, hi]
theorem ext_getD {A B : List Int} (hl : A.length = B.length) (h : ∀ j, j < A.length → A.getD j 0 = B.getD j 0) : A = B := by
  refine List.ext_getElem hl fun j h1 h2 => ?_
  have := h j h1
  simpa [List.getD, h1, h2] using this
theorem WL_nil (V : Nat → Int) (lv : List Int) : WL V lv [] = lv := by
  refine ext_getD (WL_len _ _ _) fun j hj => ?_
  rw [WL_len] at hj
  rw [WL_at _ _ _ hj, if_neg (by simp)]
theorem WL_set (V : Nat → Int) (lv : List Int) (ps : List Nat) (p : Nat) : (WL V lv ps).set p (V p) = WL V lv (ps ++ [p]) := by
  refine ext_getD (by simp [WL]) fun j hj => ?_
  rw [List.length_set, WL_len] at hj
  rw [WL_at _ _ _ hj]
  by_cases h : p = j
  · subst h
    rw [if_pos (by simp)]
    simp [List.getD, WL_len, hj]
  · have e : ((WL V lv ps).set p (V p)).getD j 0 = (WL V lv ps).getD j 0 := by simp [List.getD, List.getElem?_set_ne h]
    rw [e, WL_at _ _ _ hj]
    by_cases h2 : j ∈ ps
    · rw [if_pos h2, if_pos (by simp [h2])]
    · rw [if_neg h2, if_neg (by simp [h2]; exact fun e => h e.symm)]
/-- All places of the first k sequences, and the first m of the next one. -/
def AK (b : Int) (c : List Int) (k : Nat) : List Nat := ((SQ b c).take k).flatMap Sq.places
theorem AK_zero (b : Int) (c : List Int) : AK b c 0 = [] := rfl
theorem AK_succ (b : Int) (c : List Int) {k : Nat} (hk : k < (SQ b c).length) : AK b c (k + 1) = AK b c k ++ ((SQ b c).getD k default).places := by
  unfold AK
  rw [List.take_succ_eq_append_getElem hk, List.flatMap_append]
  simp [List.getD, hk]
theorem AK_all (b : Int) (c : List Int) : AK b c (SQ b c).length = AP b c := by unfold AK; rw [List.take_length]; rfl
theorem sq_mem {b : Int} {c : List Int} {k : Nat} (hk : k < (SQ b c).length) : (SQ b c).getD k default ∈ SQ b c := by
  rw [show (SQ b c).getD k default = (SQ b c)[k] from by simp [List.getD, hk]]
  exact List.getElem_mem hk
theorem take_places {s : Sq} {m : Nat} (hm : m < s.places.length) : s.places.take (m + 1) = s.places.take m ++ [s.places.getD m 0] := by
  rw [List.take_succ_eq_append_getElem hm]
  simp [List.getD, hm]
/-- All levels. -/
def PVs (f : List Int → List Int → Int → Int → Int → List Int) (l : List Int) (b : Int) (c : List Int) : List Int := (List.range c.length).map (PV f l b c)
theorem PVs_len (f : List Int → List Int → Int → Int → Int → List Int) (l : List Int) (b : Int) (c : List Int) : (PVs f l b c).length = c.length := by simp [PVs]
theorem PVs_at (f : List Int → List Int → Int → Int → Int → List Int) (l : List Int) (b : Int) (c : List Int) {i : Nat} (hi : i < c.length) : (PVs f l b c).getD i 0 = PV f l b c i := by simp [PVs, List.getD, hi]
theorem WL_end {b : Int} (hb : b = 0 ∨ b = 1) {c : List Int} (hF : Formed c) (f : List Int → List Int → Int → Int → Int → List Int) (l : List Int) : WL (PV f l b c) (LV b c) (AP b c) = PVs f l b c := by
  refine ext_getD (by rw [WL_len, PVs_len, Ex.LV_len]) fun i hi => ?_
  rw [WL_len, Ex.LV_len] at hi
  rw [WL_at _ _ _ (by rw [Ex.LV_len]; exact hi), PVs_at _ _ _ _ hi]
  have hc := AP_count hb hF i hi
  cases hk : kp (LV b c) i with
  | true =>
    rw [hk, if_pos rfl] at hc
    rw [if_pos (List.count_pos_iff.1 (by omega))]
  | false =>
    rw [hk, if_neg (by decide)] at hc
    rw [if_neg (fun h => by have := List.count_pos_iff.2 h; omega), PV_gone hb hF f l hk]
    have hr : rm (c.getD i 0) = true := by have := hk; rw [kp_rm hb hi] at this; simpa using this
    rw [Ex.LV_at b c i hi, lev_gone hr]
end Go.Proofs.YtfadjgaledddjaaGreatDoor.Rn

/- A plain paragraph (no embeddings, overrides, isolates): all that is kept has the base level, if a function of its one sequence says so: plain mathematics. -/
namespace Go.Proofs.YtfadjgaledddjaaGreatDoor.Rn
set_option linter.unusedVariables false
open Ex (lev LV TY rm Formed)
section
variable {b : Int} {c : List Int}
theorem PV_plain (hb : b = 0 ∨ b = 1) (hF : Formed c) (hp : Ex.pl c c.length = true) (f : List Int → List Int → Int → Int → Int → List Int) (l : List Int)
    (hv : ∀ ps : List Nat, (∀ i ∈ ps, i < c.length) → ∀ m, m < ps.length → (f (pk l ps) (pk c ps) b (1 + b) (1 + b)).getD m 0 = b) {i : Nat} (hi : i < c.length) (hk : kp (LV b c) i = true) : PV f l b c i = b := by
  obtain ⟨s, hs, hmem⟩ := SQ_cover hb hF hi hk
  have hE := SQ_ends hb hF s hs
  obtain ⟨m, hm, rfl⟩ := Lv.mem_getD hmem
  rw [PV_at hb hF f l hs hm]
  have hl : ∀ i ∈ s.places, i < c.length := fun i h => (hE.kept i h).1
  have hty : pk (TY b c) s.places = pk c s.places := pk_eq rfl fun k hk => by
    have h1 := hl _ (getD_mem hk)
    rw [Ex.TY_at b c _ h1, (Ex.pl_lev (b := b) hp h1).2]
  have h3 : s.lvl = b ∧ s.sos = 1 + b ∧ s.eos = 1 + b := by
    rcases plain hb hF hp with ⟨_, h0⟩ | ⟨_, ps, h0, _⟩
    · have : SQ b c = [] := h0
      rw [this] at hs; cases hs
    · have : SQ b c = [⟨ps, b, 1 + b, 1 + b⟩] := h0
      rw [this] at hs
      rw [List.mem_singleton.1 hs]
      exact ⟨rfl, rfl, rfl⟩
  unfold fv
  rw [h3.1, h3.2.1, h3.2.2, hty]
  exact hv s.places hl m hm
/-- Texts of one direction, with blanks and signs. -/
theorem PV_one {pp : List Int → List Int → List (Nat × Nat)} {p : Int} (hp : (p = 1 ∧ b = 0) ∨ (p = 2 ∧ b = 1)) (hF : Formed c) (hpl : Ex.pl c c.length = true) (l : List Int) (hc : ∀ i, i < c.length → We.P1 p (c.getD i 0)) (hno : ∀ ps T, pp (pk l ps) T = []) {i : Nat} (hi : i < c.length) (hk : kp (LV b c) i = true) : PV (F12 pp) l b c i = b := by
  have hb : b = 0 ∨ b = 1 := by omega
  refine PV_plain hb hF hpl (F12 pp) l (fun ps hps m hm => ?_) hi hk
  have e : 1 + b = p := by omega
  rw [e]
  refine plain12 hp (fun j hj => ?_) (hno _ _) (by rw [pk_len]; exact hm)
  rw [pk_len] at hj
  rw [pk_at _ _ hj]
  exact hc _ (hps _ (getD_mem hj))
end
end Go.Proofs.YtfadjgaledddjaaGreatDoor.Rn

/- What Paragraph answers; what each chapter is handed of a sequence: plain mathematics. -/
namespace Go.Proofs.YtfadjgaledddjaaGreatDoor
set_option linter.unusedVariables false
namespace Rn
open Ex (lev LV TY rm Formed)
theorem pp14 : ∀ tx T, ∀ q ∈ Br.PP tx T, T.getD q.1 0 = 14 ∧ T.getD q.2 0 = 14 := by
  intro tx T q hq
  obtain ⟨_, _, h3, h4, _⟩ := Br.F_p _ (Br.mem_PS.1 hq)
  refine ⟨?_, ?_⟩
  · by_cases h : T.getD q.1 0 = 14
    · exact h
    · rw [Br.kd_not h] at h3; exact absurd h3 (by decide)
  · by_cases h : T.getD q.2 0 = 14
    · exact h
    · rw [Br.kd_not h] at h4; exact absurd h4 (by decide)
/-- The rules of chapters 9 to 11. -/
def F13 : List Int → List Int → Int → Int → Int → List Int := F12 Br.PP
theorem fine13 : Fine F13 := fine12 pp14
/-- A text's classes; the level by a base; all levels. -/
def cl (l : List Int) : List Int := l.map Ucd.cls
theorem cl_len (l : List Int) : (cl l).length = l.length := by simp [cl]
theorem cl_at (l : List Int) {i : Nat} (hi : i < l.length) : (cl l).getD i 0 = Ucd.cls (l.getD i 0) := by simp [cl, List.getD, hi]
def bl (base : Int) (l : List Int) : Int := if base = -1 then Iso.bso 0 (cl l) else base
def BB (base : Int) : Prop := -1 ≤ base ∧ base ≤ 1
theorem bl_two {base : Int} (h : BB base) (l : List Int) : bl base l = 0 ∨ bl base l = 1 := by
  unfold bl
  split
  · exact Iso.bso_two _ _
  · unfold BB at h; omega
def VS (l : List Int) (b : Int) : List Int := PVs F13 l b (cl l)
theorem VS_len (l : List Int) (b : Int) : (VS l b).length = l.length := by unfold VS; rw [PVs_len, cl_len]
/-- What Paragraph answers: a level, levels, an error. -/
def PA (l : List Int) (base : Int) (n : Int) (L : List Int) (E : Int) : Prop :=
  (¬ BB base ∧ n = 0 ∧ L = [] ∧ E = 2) ∨ (BB base ∧ 4096 < l.length ∧ n = 0 ∧ L = [] ∧ E = 3) ∨ (BB base ∧ l.length ≤ 4096 ∧ ¬ Formed (cl l) ∧ n = 0 ∧ L = [] ∧ E = 50) ∨
    (BB base ∧ l.length ≤ 4096 ∧ Formed (cl l) ∧ n = bl base l ∧ L = VS l (bl base l) ∧ E = 0)
theorem PA_some (l : List Int) (base : Int) : ∃ n L E, PA l base n L E := by
  by_cases h1 : BB base
  · by_cases h2 : l.length ≤ 4096
    · by_cases h3 : Formed (cl l)
      · exact ⟨_, _, _, .inr (.inr (.inr ⟨h1, h2, h3, rfl, rfl, rfl⟩))⟩
      · exact ⟨_, _, _, .inr (.inr (.inl ⟨h1, h2, h3, rfl, rfl, rfl⟩))⟩
    · exact ⟨_, _, _, .inr (.inl ⟨h1, by omega, rfl, rfl, rfl⟩)⟩
  · exact ⟨_, _, _, .inl ⟨h1, rfl, rfl, rfl⟩⟩
theorem PA_err {l : List Int} {base n : Int} {L : List Int} {E : Int} (h : PA l base n L E) : (E = 0 ∧ BB base ∧ l.length ≤ 4096 ∧ Formed (cl l) ∧ n = bl base l ∧ L = VS l (bl base l)) ∨ (¬ E = 0 ∧ n = 0 ∧ L = [] ∧ (E = 2 ∨ E = 3 ∨ E = 50)) := by
  rcases h with ⟨_, rfl, rfl, rfl⟩ | ⟨_, _, rfl, rfl, rfl⟩ | ⟨_, _, _, rfl, rfl, rfl⟩ | ⟨h1, h2, h3, rfl, rfl, rfl⟩
  · exact .inr ⟨by decide, rfl, rfl, .inl rfl⟩
  · exact .inr ⟨by decide, rfl, rfl, .inr (.inl rfl)⟩
  · exact .inr ⟨by decide, rfl, rfl, .inr (.inr rfl)⟩
  · exact .inl ⟨rfl, h1, h2, h3, rfl, rfl⟩
/-- What a sequence is handed with. -/
structure G (tx ty : List Int) (lv so eo : Int) : Prop where
  len : tx.length = ty.length
  ok : We.Ok ty
  lv0 : 0 ≤ lv
  lv1 : lv ≤ 125
  so : so = 1 ∨ so = 2
  eo : eo = 1 ∨ eo = 2
theorem g_of {b : Int} (hb : b = 0 ∨ b = 1) {c : List Int} (hF : Formed c) (l : List Int) {s : Sq} (hs : s ∈ SQ b c) : G (pk l s.places) (pk (TY b c) s.places) s.lvl s.sos s.eos := by
  obtain ⟨h1, h2, h3, h4, _⟩ := sq_good hb hF hs
  exact ⟨by rw [pk_len, pk_len], ok_ty hb hF hs, h1, h2, h3, h4⟩
section
variable {tx ty : List Int} {lv so eo : Int}
theorem G.b9 (h : G tx ty lv so eo) : B9 so ty (T9 ty so) 0 := .inr (.inr ⟨h.so, h.ok, rfl, rfl⟩)
theorem G.ra (h : G tx ty lv so eo) : Br.RA tx ty (T9 ty so) lv so = (0, T10 Br.PP tx ty lv so) :=
  Br.RA_ok ⟨⟨by rw [T9_len]; exact h.len, (T9_len _ _).symm⟩, ⟨h.lv0, by have := h.lv1; omega⟩, h.so⟩ (t9_all h.ok h.so)
theorem G.ar (h : G tx ty lv so eo) : Ne.AR (T10 Br.PP tx ty lv so) lv so eo (Ne.RS (T10 Br.PP tx ty lv so) lv so eo) 0 :=
  .inr (.inr ⟨⟨h.lv0, by have := h.lv1; omega, h.so, h.eo⟩, t10_ok h.ok h.so, rfl, rfl⟩)
theorem G.al (h : G tx ty lv so eo) : Ne.AL (Ne.RS (T10 Br.PP tx ty lv so) lv so eo) lv (F13 tx ty lv so eo) 0 :=
  .inr (.inr ⟨⟨h.lv0, by have := h.lv1; omega⟩, rs_sided _ _ _ _ h.so, rfl, rfl⟩)
end
theorem wf_small {x : Int} (h1 : -1000 ≤ x) (h2 : x ≤ 1000) : (Lit.int .i64 x).wf = true := WalkArith.wf_i64 (by omega)
theorem wf_ok {t : List Int} (h : Ne.Ok t) : WF t := by
  intro x hx
  obtain ⟨m, hm, rfl⟩ := List.mem_iff_getElem.1 hx
  have h1 := h m hm
  have e : t.getD m 0 = t[m] := by simp [List.getD, hm]
  rw [e] at h1
  generalize t[m] = y at *
  have h2 : -1000 ≤ y ∧ y ≤ 1000 := by
    by_cases h0 : -1000 ≤ y ∧ y ≤ 1000
    · exact h0
    · exfalso
      have e1 : Ne.sd y = 0 := by unfold Ne.sd; rw [if_neg (by omega), if_neg (by omega)]
      have e2 : Ne.neu y = false := by unfold Ne.neu; simp only [Bool.or_eq_false_iff, beq_eq_false_iff_ne]; omega
      rcases h1 with h | h
      · exact h e1
      · rw [e2] at h; cases h
  exact wf_small h2.1 h2.2
theorem wf_sided {t : List Int} (h : Ne.Sided t) : WF t := wf_ok fun i hi => .inl (h i hi)
section
variable {tx ty : List Int} {lv so eo : Int}
theorem G.wf10 (h : G tx ty lv so eo) : WF (T10 Br.PP tx ty lv so) := wf_ok (t10_ok h.ok h.so)
theorem G.wf11 (h : G tx ty lv so eo) : WF (Ne.RS (T10 Br.PP tx ty lv so) lv so eo) := wf_sided (rs_sided _ _ _ _ h.so)
end
end Rn
end Go.Proofs.YtfadjgaledddjaaGreatDoor

/- The list of levels as sequences are written into it, in steps: plain mathematics. -/
namespace Go.Proofs.YtfadjgaledddjaaGreatDoor.Rn
set_option linter.unusedVariables false
open Ex (lev LV TY rm Formed)
/-- Behind j sequences and m places of the next one. -/
def WK (l : List Int) (b : Int) (c : List Int) (j m : Nat) : List Int := WL (PV F13 l b c) (LV b c) (AK b c j ++ ((SQ b c).getD j default).places.take m)
section
variable {l : List Int} {b : Int} {c : List Int}
theorem WK_first : WK l b c 0 0 = LV b c := by
  unfold WK
  rw [AK_zero, List.take_zero, List.append_nil, WL_nil]
theorem WK_len (j m : Nat) : (WK l b c j m).length = c.length := by unfold WK; rw [WL_len, Ex.LV_len]
theorem WK_set (hb : b = 0 ∨ b = 1) (hF : Formed c) {j m : Nat} (hj : j < (SQ b c).length) (hm : m < ((SQ b c).getD j default).places.length) :
    (WK l b c j m).set (((SQ b c).getD j default).places.getD m 0) ((fv F13 l b c ((SQ b c).getD j default)).getD m 0) = WK l b c j (m + 1) := by
  rw [← PV_at hb hF F13 l (sq_mem hj) hm]
  unfold WK
  rw [WL_set, take_places hm, List.append_assoc]
theorem WK_next {j : Nat} (hj : j < (SQ b c).length) : WK l b c j ((SQ b c).getD j default).places.length = WK l b c (j + 1) 0 := by
  unfold WK
  rw [List.take_of_length_le (Nat.le_refl _), ← AK_succ b c hj, List.take_zero, List.append_nil]
theorem WK_end (hb : b = 0 ∨ b = 1) (hF : Formed c) : WK l b c (SQ b c).length 0 = PVs F13 l b c := by
  unfold WK
  rw [List.take_zero, List.append_nil, AK_all, WL_end hb hF]
theorem sq_in (hb : b = 0 ∨ b = 1) (hF : Formed c) {j : Nat} (hj : j < (SQ b c).length) : ∀ i ∈ ((SQ b c).getD j default).places, i < c.length := fun i hi => ((SQ_ends hb hF _ (sq_mem hj)).kept i hi).1
theorem fv_len (s : Sq) : (fv F13 l b c s).length = s.places.length := by
  unfold fv F13
  rw [F12_len, pk_len]
theorem mx_bound {n : Nat} {ps : List Nat} (h : Lv.Mx (Nx b c) ps) (hl : ∀ i ∈ ps, i < n) : ps.length ≤ n := by
  have key : ∀ m, m < ps.length → m ≤ ps.getD m 0 := by
    intro m
    induction m with
    | zero => intro _; exact Nat.zero_le _
    | succ m ih =>
      intro hm
      have h1 := ih (by omega)
      have h2 := mx_lt h (m + 1) m (by omega) hm
      omega
  rcases Nat.eq_zero_or_pos ps.length with h0 | h0
  · omega
  · have h1 := key (ps.length - 1) (by omega)
    have h2 := hl _ (getD_mem (show ps.length - 1 < ps.length by omega))
    omega
theorem sq_short (hb : b = 0 ∨ b = 1) (hF : Formed c) {j : Nat} (hj : j < (SQ b c).length) : ((SQ b c).getD j default).places.length ≤ c.length :=
  mx_bound (SQ_ends hb hF _ (sq_mem hj)).mx (sq_in hb hF hj)
end
end Go.Proofs.YtfadjgaledddjaaGreatDoor.Rn
