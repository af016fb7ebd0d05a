import Derived.Test.YtmdmehopefgndaaGreatDoorZ17
import Derived.Test.YtmdmehopefgndaaGreatDoorZ15
import Derived.Test.YtmdmehopefgndaaGreatDoorZ14
import Derived.RowKit
/- The types of a sequence may come in at each chapter: plain mathematics. -/
namespace Go.Proofs.YtmdmehopefgndaaGreatDoor.Rn
set_option linter.unusedVariables false
open Ex (lev LV TY rm Formed)
theorem may_ty {b : Int} (hb : b = 0 ∨ b = 1) {c : List Int} (hF : Formed c) {i : Nat} (hi : i < c.length) (hk : kp (LV b c) i = true) : We.May ((TY b c).getD i 0) := by
  have hr : rm (c.getD i 0) = false := by have := hk; rw [kp_rm hb hi] at this; simpa using this
  obtain ⟨f1, f2, _⟩ := hF i hi
  rw [Ex.TY_at b c i hi]
  have hok := (Ex.Ok.at (b := b) c i).mid (c.getD i 0)
  have hov := hok.ch.ov
  unfold Ex.typ Ex.ty
  rw [if_neg (by rw [hr]; decide)]
  have hc : We.May (c.getD i 0) := by
    generalize c.getD i 0 = x at *
    unfold Ex.rm at hr
    simp only [Bool.or_eq_false_iff, beq_eq_false_iff_ne] at hr
    unfold We.May
    omega
  split
  · exact hc
  · split
    · exact hc
    · rename_i h0
      generalize (Ex.hd (Ex.mid (Ex.at' (Ex.s0 b) c i) (c.getD i 0)).st).ov = o at *
      unfold We.May
      omega
theorem ok_ty {b : Int} (hb : b = 0 ∨ b = 1) {c : List Int} (hF : Formed c) {s : Sq} (hs : s ∈ SQ b c) : We.Ok (pk (TY b c) s.places) := by
  have hE := SQ_ends hb hF s hs
  intro m hm
  rw [pk_len] at hm
  rw [pk_at _ _ hm]
  obtain ⟨h1, h2, _⟩ := hE.kept _ (getD_mem hm)
  exact may_ty hb hF h1 h2
theorem t9_may {ty : List Int} (h : We.Ok ty) {so : Int} (hs : so = 1 ∨ so = 2) {m : Nat} (hm : m < ty.length) : Br.may ((T9 ty so).getD m 0) = true := by
  have h1 : We.May ((T9 ty so).getD m 0) := We.Ok.RR hs h 7 m (by rw [We.RR_len]; exact hm)
  have g := fun x hx => We.gone (s := so) hs ty x hx m (by rw [We.RR_len]; exact hm)
  have g9 := g 9 (by omega)
  have g3 := g 3 (by omega)
  have g5 := g 5 (by omega)
  have g6 := g 6 (by omega)
  have g8 := g 8 (by omega)
  change ¬ (T9 ty so).getD m 0 = 9 at g9
  change ¬ (T9 ty so).getD m 0 = 3 at g3
  change ¬ (T9 ty so).getD m 0 = 5 at g5
  change ¬ (T9 ty so).getD m 0 = 6 at g6
  change ¬ (T9 ty so).getD m 0 = 8 at g8
  generalize (T9 ty so).getD m 0 = x at *
  unfold We.May at h1
  unfold Br.may
  simp only [Bool.or_eq_true, beq_iff_eq]
  omega
theorem rs_may (was : List Int) (e s : Int) (he : e = 1 ∨ e = 2) (j : Nat) : ∀ (ps : List (Nat × Nat)) (t : List Int), Br.may (t.getD j 0) = true → Br.may ((Br.rs was e s t ps).getD j 0) = true
  | [], t, h => h
  | p :: r, t, h => by
    rw [Br.rs, List.foldl_cons, ← Br.rs]
    refine rs_may was e s he j r _ ?_
    unfold Br.one
    by_cases h0 : Br.dr t p e s = 0
    · rw [if_pos h0]; exact h
    · rw [if_neg h0, Br.two_at]
      split
      · rcases (Br.dr_cases he).resolve_left h0 with q | q <;> rw [q] <;> rfl
      · exact h
theorem t10_may {pp : List Int → List Int → List (Nat × Nat)} {tx ty : List Int} (h : We.Ok ty) {lv so : Int} (hs : so = 1 ∨ so = 2) {m : Nat} (hm : m < ty.length) : Br.may ((T10 pp tx ty lv so).getD m 0) = true :=
  rs_may _ _ _ (Br.es_cases lv) _ _ _ (t9_may h hs hm)
theorem may_ne {x : Int} (h : Br.may x = true) : Ne.May x := by
  unfold Br.may at h
  simp only [Bool.or_eq_true, beq_iff_eq] at h
  unfold Ne.May
  rcases h with ((((((((((h | h) | h) | h) | h) | h) | h) | h) | h) | h) | h) | h <;> subst h <;> decide
theorem t10_ok {pp : List Int → List Int → List (Nat × Nat)} {tx ty : List Int} (h : We.Ok ty) {lv so : Int} (hs : so = 1 ∨ so = 2) : Ne.Ok (T10 pp tx ty lv so) := by
  intro m hm
  rw [T10_len] at hm
  exact may_ne (t10_may h hs hm)
theorem t9_all {ty : List Int} (h : We.Ok ty) {so : Int} (hs : so = 1 ∨ so = 2) : (T9 ty so).all Br.may = true := by
  rw [List.all_eq_true]
  intro x hx
  obtain ⟨m, hm, rfl⟩ := List.mem_iff_getElem.1 hx
  rw [T9_len] at hm
  have := t9_may h hs hm
  simpa [List.getD, hm, T9_len] using this
theorem rs_sided (t : List Int) (lv so eo : Int) (hso : so = 1 ∨ so = 2) : Ne.Sided (Ne.RS t lv so eo) := by
  intro i hi
  rw [Ne.RS_len] at hi
  obtain ⟨k1, k2⟩ := Ne.keeps t lv so eo hso hi
  by_cases hs : Ne.sd (t.getD i 0) = 0
  · rcases k2 hs with e | e <;> rw [e] <;> decide
  · rw [k1 hs]; exact hs
/-- A sequence's level and sides are such as may come in. -/
theorem sq_good {b : Int} (hb : b = 0 ∨ b = 1) {c : List Int} (hF : Formed c) {s : Sq} (hs : s ∈ SQ b c) : 0 ≤ s.lvl ∧ s.lvl ≤ 125 ∧ (s.sos = 1 ∨ s.sos = 2) ∧ (s.eos = 1 ∨ s.eos = 2) ∧ 0 < s.places.length := by
  have hE := SQ_ends hb hF s hs
  obtain ⟨v, _, e1⟩ := hE.sos
  obtain ⟨u, _, e2⟩ := hE.eos
  obtain ⟨k1, k2, k3⟩ := hE.kept _ (getD_mem hE.mx.pos)
  have hh := LV_hi hb k1 k2
  rw [k3] at hh
  exact ⟨by omega, hh.2, by rw [e1]; exact sd_two _ _, by rw [e2]; exact sd_two _ _, hE.mx.pos⟩
end Go.Proofs.YtmdmehopefgndaaGreatDoor.Rn

/- The list of levels as sequences are written into it, place by place: plain mathematics. -/
namespace Go.Proofs.YtmdmehopefgndaaGreatDoor.Rn
set_option linter.unusedVariables false
open Ex (lev LV TY rm Formed)
/-- A list some places of which have their values. -/
def WL (V : Nat → Int) (lv : List Int) (ps : List Nat) : List Int := (List.range lv.length).map fun i => if i ∈ ps then V i else lv.getD i 0
theorem WL_len (V : Nat → Int) (lv : List Int) (ps : List Nat) : (WL V lv ps).length = lv.length := by simp [WL]
theorem WL_at (V : Nat → Int) (lv : List Int) (ps : List Nat) {i : Nat} (hi : i < lv.length) : (WL V lv ps).getD i 0 = if i ∈ ps then V i else lv.getD i 0 := by simp [WL, List.getD, hi]
theorem ext_getD {A B : List Int} (hl : A.length = B.length) (h : ∀ j, j < A.length → A.getD j 0 = B.getD j 0) : A = B := by
  refine List.ext_getElem hl fun j h1 h2 => ?_
  have := h j h1
  simpa [List.getD, h1, h2] using this
theorem WL_nil (V : Nat → Int) (lv : List Int) : WL V lv [] = lv := by
  refine ext_getD (WL_len _ _ _) fun j hj => ?_
  rw [WL_len] at hj
  rw [WL_at _ _ _ hj, if_neg (by simp)]
theorem WL_set (V : Nat → Int) (lv : List Int) (ps : List Nat) (p : Nat) : (WL V lv ps).set p (V p) = WL V lv (ps ++ [p]) := by
  refine ext_getD (by simp [WL]) fun j hj => ?_
  rw [List.length_set, WL_len] at hj
  rw [WL_at _ _ _ hj]
  by_cases h : p = j
  · subst h
    rw [if_pos (by simp)]
    simp [List.getD, WL_len, hj]
  · have e : ((WL V lv ps).set p (V p)).getD j 0 = (WL V lv ps).getD j 0 := by simp [List.getD, List.getElem?_set_ne h]
    rw [e, WL_at _ _ _ hj]
    by_cases h2 : j ∈ ps
    · rw [if_pos h2, if_pos (by simp [h2])]
    · rw [if_neg h2, if_neg (by simp [h2]; exact fun e => h e.symm)]
/-- All places of the first k sequences, and the first m of the next one. -/
def AK (b : Int) (c : List Int) (k : Nat) : List Nat := ((SQ b c).take k).flatMap Sq.places
theorem AK_zero (b : Int) (c : List Int) : AK b c 0 = [] := rfl
theorem AK_succ (b : Int) (c : List Int) {k : Nat} (hk : k < (SQ b c).length) : AK b c (k + 1) = AK b c k ++ ((SQ b c).getD k default).places := by
  unfold AK
  rw [List.take_succ_eq_append_getElem hk, List.flatMap_append]
  simp [List.getD, hk]
theorem AK_all (b : Int) (c : List Int) : AK b c (SQ b c).length = AP b c := by unfold AK; rw [List.take_length]; rfl
theorem sq_mem {b : Int} {c : List Int} {k : Nat} (hk : k < (SQ b c).length) : (SQ b c).getD k default ∈ SQ b c := by
  rw [show (SQ b c).getD k default = (SQ b c)[k] from by simp [List.getD, hk]]
  exact List.getElem_mem hk
theorem take_places {s : Sq} {m : Nat} (hm : m < s.places.length) : s.places.take (m + 1) = s.places.take m ++ [s.places.getD m 0] := by
  rw [List.take_succ_eq_append_getElem hm]
  simp [List.getD, hm]
/-- All levels. -/
def PVs (f : List Int → List Int → Int → Int → Int → List Int) (l : List Int) (b : Int) (c : List Int) : List Int := (List.range c.length).map (PV f l b c)
theorem PVs_len (f : List Int → List Int → Int → Int → Int → List Int) (l : List Int) (b : Int) (c : List Int) : (PVs f l b c).length = c.length := by simp [PVs]
theorem PVs_at (f : List Int → List Int → Int → Int → Int → List Int) (l : List Int) (b : Int) (c : List Int) {i : Nat} (hi : i < c.length) : (PVs f l b c).getD i 0 = PV f l b c i := by simp [PVs, List.getD, hi]
theorem WL_end {b : Int} (hb : b = 0 ∨ b = 1) {c : List Int} (hF : Formed c) (f : List Int → List Int → Int → Int → Int → List Int) (l : List Int) : WL (PV f l b c) (LV b c) (AP b c) = PVs f l b c := by
  refine ext_getD (by rw [WL_len, PVs_len, Ex.LV_len]) fun i hi => ?_
  rw [WL_len, Ex.LV_len] at hi
  rw [WL_at _ _ _ (by rw [Ex.LV_len]; exact hi), PVs_at _ _ _ _ hi]
  have hc := AP_count hb hF i hi
  cases hk : kp (LV b c) i with
  | true =>
    rw [hk, if_pos rfl] at hc
    rw [if_pos (List.count_pos_iff.1 (by omega))]
  | false =>
    rw [hk, if_neg (by decide)] at hc
    rw [if_neg (fun h => by have := List.count_pos_iff.2 h; omega), PV_gone hb hF f l hk]
    have hr : rm (c.getD i 0) = true := by have := hk; rw [kp_rm hb hi] at this; simpa using this
    rw [Ex.LV_at b c i hi, lev_gone hr]
end Go.Proofs.YtmdmehopefgndaaGreatDoor.Rn

/- A plain paragraph (no embeddings, overrides, isolates): all that is kept has the base level, if a function of its one sequence says so: plain mathematics. -/
namespace Go.Proofs.YtmdmehopefgndaaGreatDoor.Rn
set_option linter.unusedVariables false
open Ex (lev LV TY rm Formed)
section
variable {b : Int} {c : List Int}
theorem PV_plain (hb : b = 0 ∨ b = 1) (hF : Formed c) (hp : Ex.pl c c.length = true) (f : List Int → List Int → Int → Int → Int → List Int) (l : List Int)
    (hv : ∀ ps : List Nat, (∀ i ∈ ps, i < c.length) → ∀ m, m < ps.length → (f (pk l ps) (pk c ps) b (1 + b) (1 + b)).getD m 0 = b) {i : Nat} (hi : i < c.length) (hk : kp (LV b c) i = true) : PV f l b c i = b := by
  obtain ⟨s, hs, hmem⟩ := SQ_cover hb hF hi hk
  have hE := SQ_ends hb hF s hs
  obtain ⟨m, hm, rfl⟩ := Lv.mem_getD hmem
  rw [PV_at hb hF f l hs hm]
  have hl : ∀ i ∈ s.places, i < c.length := fun i h => (hE.kept i h).1
  have hty : pk (TY b c) s.places = pk c s.places := pk_eq rfl fun k hk => by
    have h1 := hl _ (getD_mem hk)
    rw [Ex.TY_at b c _ h1, (Ex.pl_lev (b := b) hp h1).2]
  have h3 : s.lvl = b ∧ s.sos = 1 + b ∧ s.eos = 1 + b := by
    rcases plain hb hF hp with ⟨_, h0⟩ | ⟨_, ps, h0, _⟩
    · have : SQ b c = [] := h0
      rw [this] at hs; cases hs
    · have : SQ b c = [⟨ps, b, 1 + b, 1 + b⟩] := h0
      rw [this] at hs
      rw [List.mem_singleton.1 hs]
      exact ⟨rfl, rfl, rfl⟩
  unfold fv
  rw [h3.1, h3.2.1, h3.2.2, hty]
  exact hv s.places hl m hm
/-- Texts of one direction, with blanks and signs. -/
theorem PV_one {pp : List Int → List Int → List (Nat × Nat)} {p : Int} (hp : (p = 1 ∧ b = 0) ∨ (p = 2 ∧ b = 1)) (hF : Formed c) (hpl : Ex.pl c c.length = true) (l : List Int) (hc : ∀ i, i < c.length → We.P1 p (c.getD i 0)) (hno : ∀ ps T, pp (pk l ps) T = []) {i : Nat} (hi : i < c.length) (hk : kp (LV b c) i = true) : PV (F12 pp) l b c i = b := by
  have hb : b = 0 ∨ b = 1 := by omega
  refine PV_plain hb hF hpl (F12 pp) l (fun ps hps m hm => ?_) hi hk
  have e : 1 + b = p := by omega
  rw [e]
  refine plain12 hp (fun j hj => ?_) (hno _ _) (by rw [pk_len]; exact hm)
  rw [pk_len] at hj
  rw [pk_at _ _ hj]
  exact hc _ (hps _ (getD_mem hj))
end
end Go.Proofs.YtmdmehopefgndaaGreatDoor.Rn

/- Plain mathematics of the chapter's table: ranges, brackets, mirrored ones. No Go in sight. -/
namespace Go.Proofs.YtmdmehopefgndaaGreatDoor
namespace Ucd
abbrev Rg : Type := Int × Int × Int
def rows : List Rg := [
    (0, 8, 10), (9, 9, 12), (10, 10, 11), (11, 11, 12), (12, 12, 13), (13, 13, 11), (14, 27, 10), (28, 30, 11),
    (31, 31, 12), (32, 32, 13), (33, 34, 14), (35, 37, 6), (38, 42, 14), (43, 43, 5), (44, 44, 8), (45, 45, 5),
    (46, 47, 8), (48, 57, 4), (58, 58, 8), (59, 64, 14), (91, 96, 14), (123, 126, 14), (127, 132, 10), (133, 133, 11),
    (134, 159, 10), (160, 160, 8), (161, 161, 14), (162, 165, 6), (166, 169, 14), (171, 172, 14), (173, 173, 10), (174, 175, 14),
    (176, 177, 6), (178, 179, 4), (180, 180, 14), (182, 184, 14), (185, 185, 4), (187, 191, 14), (215, 215, 14), (247, 247, 14),
    (768, 879, 9), (1155, 1161, 9), (1424, 1424, 2), (1425, 1469, 9), (1470, 1470, 2), (1471, 1471, 9), (1472, 1472, 2), (1473, 1474, 9),
    (1475, 1475, 2), (1476, 1477, 9), (1478, 1478, 2), (1479, 1479, 9), (1480, 1535, 2), (1536, 1541, 7), (1542, 1543, 14), (1544, 1544, 3),
    (1545, 1546, 6), (1547, 1547, 3), (1548, 1548, 8), (1549, 1549, 3), (1550, 1551, 14), (1552, 1562, 9), (1563, 1610, 3), (1611, 1631, 9),
    (1632, 1641, 7), (1642, 1642, 6), (1643, 1644, 7), (1645, 1647, 3), (1648, 1648, 9), (1649, 1749, 3), (1750, 1756, 9), (1757, 1757, 7),
    (1758, 1758, 14), (1759, 1764, 9), (1765, 1766, 3), (1767, 1768, 9), (1769, 1769, 14), (1770, 1773, 9), (1774, 1775, 3), (1776, 1785, 4),
    (1786, 1808, 3), (1809, 1809, 9), (1810, 1839, 3), (1840, 1866, 9), (1867, 1957, 3), (1958, 1968, 9), (1969, 1983, 3), (1984, 2026, 2),
    (2027, 2035, 9), (2036, 2037, 2), (2038, 2041, 14), (2042, 2143, 2), (8192, 8202, 13), (8203, 8205, 10), (8207, 8207, 2), (8208, 8231, 14),
    (8232, 8232, 13), (8233, 8233, 11), (8234, 8234, 15), (8235, 8235, 17), (8236, 8236, 19), (8237, 8237, 16), (8238, 8238, 18), (8239, 8239, 8),
    (8240, 8244, 6), (8245, 8259, 14), (8260, 8260, 8), (8261, 8286, 14), (8287, 8287, 13), (8288, 8293, 10), (8294, 8294, 20), (8295, 8295, 21),
    (8296, 8296, 22), (8297, 8297, 23), (8298, 8303, 10), (8304, 8304, 4), (8308, 8313, 4), (8314, 8315, 5), (8316, 8318, 14), (8320, 8329, 4),
    (8330, 8331, 5), (8332, 8334, 14), (8352, 8399, 6), (8400, 8432, 9), (8592, 8721, 14), (8722, 8722, 5), (8723, 8723, 6), (8724, 9013, 14),
    (9472, 9899, 14), (10214, 10223, 14), (12288, 12288, 13), (12289, 12292, 14), (12296, 12320, 14), (64285, 64285, 2), (64286, 64286, 9), (64287, 64296, 2),
    (64297, 64297, 5), (64298, 64335, 2), (64336, 65023, 3), (65024, 65039, 9), (65136, 65278, 3), (65279, 65279, 10), (67584, 69631, 2), (120782, 120831, 4),
    (124928, 126463, 2), (126464, 126719, 3), (917760, 917999, 9)]
def valid (r : Int) : Bool := (decide (0 ≤ r) && decide (r < 55296)) || (decide (57343 < r) && decide (r ≤ 1114111))
def find : List Rg → Int → Int
  | [], _ => 1
  | p :: t, r => if p.1 ≤ r ∧ r ≤ p.2.1 then p.2.2 else find t r
/-- The class by the chapter's words. -/
def cls (r : Int) : Int := if valid r = true then find rows r else 0
/-- The ranges rise behind 'last', and their classes are from 1 to 23. -/
def rises : Int → List Rg → Bool
  | _, [] => true
  | last, p :: t => decide (last < p.1) && decide (p.1 ≤ p.2.1) && decide (p.2.1 ≤ 1114111) && decide (1 ≤ p.2.2) && decide (p.2.2 ≤ 23) && rises p.2.1 t
def lo (l : List Rg) (i : Nat) : Int := (l.getD i (0, 0, 0)).1
def hi (l : List Rg) (i : Nat) : Int := (l.getD i (0, 0, 0)).2.1
def cl (l : List Rg) (i : Nat) : Int := (l.getD i (0, 0, 0)).2.2
theorem rows_rise : rises (-1) rows = true := by decide +kernel
theorem rows_len : rows.length = 147 := by decide +kernel
theorem lo_succ (p : Rg) (t : List Rg) (i : Nat) : lo (p :: t) (i + 1) = lo t i := by simp [lo]
theorem hi_succ (p : Rg) (t : List Rg) (i : Nat) : hi (p :: t) (i + 1) = hi t i := by simp [hi]
theorem cl_succ (p : Rg) (t : List Rg) (i : Nat) : cl (p :: t) (i + 1) = cl t i := by simp [cl]
theorem find_early : ∀ (l : List Rg) (last r : Int), rises last l = true → r ≤ last → find l r = 1
  | [], _, _, _, _ => rfl
  | p :: t, last, r, h, hr => by
    simp only [rises, Bool.and_eq_true, decide_eq_true_eq] at h
    obtain ⟨⟨⟨⟨⟨h1, h2⟩, h3⟩, h4⟩, h5⟩, h6⟩ := h
    simp only [find]
    rw [if_neg (by omega)]
    exact find_early t p.2.1 r h6 (by omega)
/-- Where a search by the ranges' ends stops, there the class is told. -/
theorem find_at : ∀ (l : List Rg) (last r : Int) (k : Nat), rises last l = true → k ≤ l.length → (∀ t, t < k → hi l t < r) → (∀ t, k ≤ t → t < l.length → r ≤ hi l t) →
    find l r = if k < l.length ∧ lo l k ≤ r then cl l k else 1
  | [], _, r, k, _, hk, _, _ => by
    rw [if_neg (by simp)]; rfl
  | p :: t, last, r, 0, h, _, _, h2 => by
    simp only [rises, Bool.and_eq_true, decide_eq_true_eq] at h
    obtain ⟨⟨⟨⟨⟨g1, g2⟩, g3⟩, g4⟩, g5⟩, g6⟩ := h
    have e0 := h2 0 (Nat.le_refl _) (by simp)
    have e1 : hi (p :: t) 0 = p.2.1 := rfl
    have e2 : lo (p :: t) 0 = p.1 := rfl
    have e3 : cl (p :: t) 0 = p.2.2 := rfl
    rw [e2, e3]
    rw [e1] at e0
    simp only [find]
    by_cases hp : p.1 ≤ r
    · rw [if_pos ⟨hp, e0⟩, if_pos ⟨by simp, hp⟩]
    · rw [if_neg (by omega), if_neg (by omega)]
      exact find_early t p.2.1 r g6 (by omega)
  | p :: t, last, r, k + 1, h, hk, h1, h2 => by
    simp only [rises, Bool.and_eq_true, decide_eq_true_eq] at h
    obtain ⟨⟨⟨⟨⟨g1, g2⟩, g3⟩, g4⟩, g5⟩, g6⟩ := h
    have e0 := h1 0 (by omega)
    have e1 : hi (p :: t) 0 = p.2.1 := rfl
    rw [e1] at e0
    simp only [find]
    rw [if_neg (by omega), find_at t p.2.1 r k g6 (by simpa using hk) (fun x hx => by rw [← hi_succ p]; exact h1 (x + 1) (by omega)) (fun x hx hl => by rw [← hi_succ p]; exact h2 (x + 1) (by omega) (by simpa using hl))]
    rw [lo_succ, cl_succ]
    simp
theorem cls_at {r : Int} (hv : valid r = true) (k : Nat) (hk : k ≤ 147) (h1 : ∀ t, t < k → hi rows t < r) (h2 : ∀ t, k ≤ t → t < 147 → r ≤ hi rows t) :
    cls r = if k < 147 ∧ lo rows k ≤ r then cl rows k else 1 := by
  unfold cls
  rw [if_pos hv, find_at rows (-1) r k rows_rise (by rw [rows_len]; exact hk) h1 (by rw [rows_len]; exact h2), rows_len]
theorem cls_not {r : Int} (hv : valid r = false) : cls r = 0 := by
  unfold cls; rw [if_neg (by rw [hv]; simp)]
/-- The ends rise. -/
theorem hi_mono : ∀ (l : List Rg) (last : Int) (a b : Nat), rises last l = true → a ≤ b → b < l.length → hi l a ≤ hi l b ∧ last < hi l a
  | [], _, _, b, _, _, hb => by simp at hb
  | p :: t, last, a, b, h, hab, hb => by
    simp only [rises, Bool.and_eq_true, decide_eq_true_eq] at h
    obtain ⟨⟨⟨⟨⟨g1, g2⟩, g3⟩, g4⟩, g5⟩, g6⟩ := h
    have e1 : hi (p :: t) 0 = p.2.1 := rfl
    match a, b with
    | 0, 0 => rw [e1]; omega
    | 0, b + 1 =>
      rw [e1, hi_succ]
      have := hi_mono t p.2.1 b b g6 (Nat.le_refl _) (by simpa using hb)
      omega
    | a + 1, 0 => omega
    | a + 1, b + 1 =>
      rw [hi_succ, hi_succ]
      have := hi_mono t p.2.1 a b g6 (by omega) (by simpa using hb)
      omega
theorem hi_rows {a b : Nat} (h : a ≤ b) (hb : b < 147) : hi rows a ≤ hi rows b := (hi_mono rows (-1) a b rows_rise h (by rw [rows_len]; exact hb)).1
/-- What a row's numbers may be. -/
theorem row_ok : ∀ (l : List Rg) (last : Int) (i : Nat), rises last l = true → i < l.length → last < lo l i ∧ lo l i ≤ hi l i ∧ hi l i ≤ 1114111 ∧ 1 ≤ cl l i ∧ cl l i ≤ 23
  | [], _, i, _, hi => by simp at hi
  | p :: t, last, 0, h, _ => by
    simp only [rises, Bool.and_eq_true, decide_eq_true_eq] at h
    obtain ⟨⟨⟨⟨⟨g1, g2⟩, g3⟩, g4⟩, g5⟩, g6⟩ := h
    exact ⟨g1, g2, g3, g4, g5⟩
  | p :: t, last, i + 1, h, hi' => by
    simp only [rises, Bool.and_eq_true, decide_eq_true_eq] at h
    obtain ⟨⟨⟨⟨⟨g1, g2⟩, g3⟩, g4⟩, g5⟩, g6⟩ := h
    rw [lo_succ, hi_succ, cl_succ]
    have := row_ok t p.2.1 i g6 (by simpa using hi')
    omega
theorem rows_ok {i : Nat} (h : i < 147) : 0 ≤ lo rows i ∧ lo rows i ≤ hi rows i ∧ hi rows i ≤ 1114111 ∧ 1 ≤ cl rows i ∧ cl rows i ≤ 23 := by
  have := row_ok rows (-1) i rows_rise (by rw [rows_len]; exact h)
  omega
/-- Three cells a row, one behind the other. -/
def flat {V : Type} (f : Rg → List V) (l : List Rg) : List V := l.flatMap f
theorem flat_at {V : Type} (f : Rg → List V) (hf : ∀ p, (f p).length = 3) : ∀ (l : List Rg) (i j : Nat), i < l.length → j < 3 → (flat f l)[i * 3 + j]? = (f (l.getD i (0, 0, 0)))[j]?
  | [], i, _, h, _ => by simp at h
  | p :: t, 0, j, _, hj => by
    simp only [flat, List.flatMap_cons]
    rw [List.getElem?_append_left (by rw [hf]; omega)]
    simp
  | p :: t, i + 1, j, h, hj => by
    simp only [flat, List.flatMap_cons]
    rw [List.getElem?_append_right (by rw [hf]; omega), hf, show (i + 1) * 3 + j - 3 = i * 3 + j from by omega]
    have := flat_at f hf t i j (by simpa using h) hj
    simp only [flat] at this
    rw [this]
    simp
theorem flat_len {V : Type} (f : Rg → List V) (hf : ∀ p, (f p).length = 3) : ∀ (l : List Rg), (flat f l).length = 3 * l.length
  | [] => rfl
  | p :: t => by
    have := flat_len f hf t
    simp only [flat] at this
    simp only [flat, List.flatMap_cons, List.length_append, hf, this, List.length_cons]
    omega
def brackets : List (Int × Int) := [
    (40, 41), (91, 93), (123, 125), (8261, 8262), (8317, 8318), (8333, 8334), (9001, 9002), (10214, 10215), (10216, 10217), (10218, 10219),
    (10220, 10221), (10222, 10223), (12296, 12297), (12298, 12299), (12300, 12301), (12302, 12303), (12304, 12305), (12308, 12309), (12310, 12311), (12312, 12313),
    (12314, 12315)]
def mirrored : List (Int × Int) := [
    (60, 62), (171, 187), (8249, 8250), (8712, 8715), (8804, 8805), (8806, 8807), (8810, 8811), (8822, 8823), (8834, 8835), (8838, 8839)]
end Ucd
end Go.Proofs.YtmdmehopefgndaaGreatDoor

/- Plain mathematics of brackets and mirrored ones. No Go in sight. -/
namespace Go.Proofs.YtmdmehopefgndaaGreatDoor
namespace Ucd
/-- What a map of the brackets tells: the last one that was put. -/
def look (l : List (Int × Int)) (r : Int) (acc : Int × Int) : Int × Int := l.foldl (fun acc p => if r = p.2 then (2, p.1) else if r = p.1 then (1, p.2) else acc) acc
def side (r : Int) : Int × Int := look brackets r (0, 0)
def oth : List (Int × Int) → Int → Option Int
  | [], _ => none
  | p :: t, r => if r = p.1 then some p.2 else if r = p.2 then some p.1 else oth t r
/-- The mirror image, and whether there is one. -/
def mir (r : Int) : Int × Bool := if (side r).1 = 0 then (match oth mirrored r with | some m => (m, true) | none => (0, false)) else ((side r).2, true)
def canon (r : Int) : Int := if r = 9001 then 12296 else if r = 9002 then 12297 else r
def flat2 (l : List (Int × Int)) : List Int := l.flatMap fun p => [p.1, p.2]
def br : List Int := flat2 brackets
def ot : List Int := flat2 mirrored
/-- The first place of a number in a list of pairs, and the one beside it. -/
def part (l : List Int) (r : Int) : Int × Int := match l.findIdx? (· == r) with
  | some i => ((i : Int), if i % 2 = 0 then l.getD (i + 1) 0 else l.getD (i - 1) 0)
  | none => (-1, 0)
theorem look_not : ∀ (l : List (Int × Int)) (r : Int) (acc : Int × Int), r ∉ flat2 l → look l r acc = acc
  | [], _, _, _ => rfl
  | p :: t, r, acc, h => by
    simp only [flat2, List.flatMap_cons, List.mem_append, List.mem_cons, List.not_mem_nil, or_false, not_or] at h
    have := look_not t r acc h.2
    simp only [look, List.foldl_cons] at this ⊢
    rw [if_neg h.1.2, if_neg h.1.1]
    exact this
theorem oth_not : ∀ (l : List (Int × Int)) (r : Int), r ∉ flat2 l → oth l r = none
  | [], _, _ => rfl
  | p :: t, r, h => by
    simp only [flat2, List.flatMap_cons, List.mem_append, List.mem_cons, List.not_mem_nil, or_false, not_or] at h
    rw [oth, if_neg h.1.1, if_neg h.1.2]
    exact oth_not t r h.2
theorem part_not (l : List Int) (r : Int) (h : r ∉ l) : part l r = (-1, 0) := by
  unfold part
  have : l.findIdx? (· == r) = none := by
    rw [List.findIdx?_eq_none_iff]
    intro x hx
    simp only [beq_eq_false_iff_ne, ne_eq]
    intro e
    exact h (e ▸ hx)
  rw [this]
theorem side_not {r : Int} (h : r ∉ br) : side r = (0, 0) := look_not brackets r _ h
theorem mir_not {r : Int} (h : r ∉ br) (h' : r ∉ ot) : mir r = (0, false) := by
  unfold mir
  rw [side_not h, if_pos rfl, oth_not mirrored r h']
/-- What is so of all of a list's numbers. -/
theorem of_all {l : List Int} {p : Int → Bool} (h : l.all p = true) {r : Int} (hr : r ∈ l) : p r = true := List.all_eq_true.1 h r hr
/-- The document's own brackets. -/
def rside (r : Int) : Int × Int := if (part br r).1 < 0 then (0, 0) else (1 + (part br r).1 % 2, (part br r).2)
theorem rside_eq (r : Int) : rside r = side r := by
  by_cases h : r ∈ br
  · have := of_all (p := fun r => rside r == side r) (by decide +kernel) h
    exact eq_of_beq this
  · unfold rside
    rw [part_not _ _ h, side_not h]
    rfl
def rmir (r : Int) : Int × Bool := ((part (br ++ ot) r).2, decide (0 ≤ (part (br ++ ot) r).1))
theorem rmir_eq (r : Int) : rmir r = mir r := by
  by_cases h : r ∈ br ++ ot
  · have := of_all (p := fun r => rmir r == mir r) (by decide +kernel) h
    exact eq_of_beq this
  · unfold rmir
    rw [part_not _ _ h]
    simp only [List.mem_append, not_or] at h
    rw [mir_not h.1 h.2]
    rfl
/-- All brackets have the class 14. -/
theorem side_class {r : Int} (h : ¬ cls r = 14) : side r = (0, 0) := by
  by_cases hb : r ∈ br
  · have := of_all (p := fun r => cls r == 14) (by decide +kernel) hb
    exact absurd (eq_of_beq this) h
  · exact side_not hb
theorem side_ok (r : Int) : 0 ≤ (side r).1 ∧ (side r).1 ≤ 2 ∧ 0 ≤ (side r).2 ∧ (side r).2 ≤ 1114111 := by
  by_cases hb : r ∈ br
  · have := of_all (p := fun r => decide (0 ≤ (side r).1 ∧ (side r).1 ≤ 2 ∧ 0 ≤ (side r).2 ∧ (side r).2 ≤ 1114111)) (by decide +kernel) hb
    exact of_decide_eq_true this
  · rw [side_not hb]; decide
theorem mir_ok (r : Int) : 0 ≤ (mir r).1 ∧ (mir r).1 ≤ 1114111 := by
  by_cases hb : r ∈ br ++ ot
  · have := of_all (p := fun r => decide (0 ≤ (mir r).1 ∧ (mir r).1 ≤ 1114111)) (by decide +kernel) hb
    exact of_decide_eq_true this
  · simp only [List.mem_append, not_or] at hb
    rw [mir_not hb.1 hb.2]; decide
/-- The chapter's words on pairs, for a number that is mirrored. -/
theorem pairs_yes {r : Int} (h : (mir r).2 = true) : cls r = 14 ∧ cls (mir r).1 = 14 ∧ ¬ (mir r).1 = r ∧
    ((side r).1 = 0 → (side r).2 = 0) ∧
    (¬ (side r).1 = 0 → ((side r).1 = 1 ∨ (side r).1 = 2) ∧ (side (side r).2).1 = 3 - (side r).1 ∧ (side (side r).2).2 = r ∧ (side r).2 = (mir r).1 ∧ (side (canon r)).1 = (side r).1 ∧ canon (side (canon r)).2 = canon (side r).2) := by
  by_cases hb : r ∈ br ++ ot
  · have := of_all (p := fun r => decide (cls r = 14 ∧ cls (mir r).1 = 14 ∧ ¬ (mir r).1 = r ∧ ((side r).1 = 0 → (side r).2 = 0) ∧
      (¬ (side r).1 = 0 → ((side r).1 = 1 ∨ (side r).1 = 2) ∧ (side (side r).2).1 = 3 - (side r).1 ∧ (side (side r).2).2 = r ∧ (side r).2 = (mir r).1 ∧ (side (canon r)).1 = (side r).1 ∧ canon (side (canon r)).2 = canon (side r).2))) (by decide +kernel) hb
    exact of_decide_eq_true this
  · simp only [List.mem_append, not_or] at hb
    rw [mir_not hb.1 hb.2] at h
    cases h
theorem pairs_no {r : Int} (h : (mir r).2 = false) : (mir r).1 = 0 ∧ (side r).1 = 0 ∧ (side r).2 = 0 := by
  by_cases hb : r ∈ br ++ ot
  · have := of_all (p := fun r => (mir r).2) (by decide +kernel) hb
    simp only [h] at this
    cases this
  · simp only [List.mem_append, not_or] at hb
    rw [mir_not hb.1 hb.2, side_not hb.1]
    exact ⟨rfl, rfl, rfl⟩
theorem twice {r : Int} (h : (mir r).2 = true) : mir (mir r).1 = (r, true) := by
  by_cases hb : r ∈ br ++ ot
  · have := of_all (p := fun r => mir (mir r).1 == (r, true)) (by decide +kernel) hb
    exact eq_of_beq this
  · simp only [List.mem_append, not_or] at hb
    rw [mir_not hb.1 hb.2] at h
    cases h
theorem canon_twice (r : Int) : canon (canon r) = canon r ∧ cls (canon r) = cls r := by
  unfold canon
  by_cases h1 : r = 9001
  · subst h1; decide +kernel
  · by_cases h2 : r = 9002
    · subst h2; decide +kernel
    · rw [if_neg h1, if_neg h2, if_neg h1, if_neg h2]; exact ⟨rfl, rfl⟩
theorem works_at : side 40 = (1, 41) ∧ mir 60 = (62, true) ∧ cls 97 = 1 ∧ cls 1488 = 2 ∧ cls 1633 = 7 ∧ cls 8295 = 21 ∧ cls 55296 = 0 ∧ canon 9001 = 12296 := by decide +kernel
theorem canon_ok {r : Int} (h : -2147483648 ≤ r ∧ r ≤ 2147483647) : -2147483648 ≤ canon r ∧ canon r ≤ 2147483647 := by
  unfold canon
  by_cases h1 : r = 9001
  · rw [if_pos h1]; omega
  · by_cases h2 : r = 9002
    · rw [if_neg h1, if_pos h2]; omega
    · rw [if_neg h1, if_neg h2]; exact h
end Ucd
end Go.Proofs.YtmdmehopefgndaaGreatDoor
