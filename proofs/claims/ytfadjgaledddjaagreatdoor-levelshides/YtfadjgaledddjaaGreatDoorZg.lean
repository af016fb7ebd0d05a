import Derived.RowKit
import Derived.Test.YtfadjgaledddjaaGreatDoorRows
import Derived.WalkKit
import Derived.WalkSpells
import Derived.WalkLawsBesides
import Derived.Outline
import Derived.Laws.Tables
import Derived.Great.BuildSlice
import Derived.Below
import Derived.Deep.WholeRow
import Derived.Test.YtfadjgaledddjaaGreatDoorZa
import Derived.Deep.RegionHeld3
import Derived.Maps.Own
import Derived.Maps.OwnOps
import Derived.Maps.Views
/- Plain mathematics of the chapter's table: ranges, brackets, mirrored ones. No Go in sight. -/
namespace Go.Proofs.YtfadjgaledddjaaGreatDoor
namespace Ucd
abbrev Rg : Type := Int × Int × Int
def rows : List Rg := [
    (0, 8, 10), (9, 9, 12), (10, 10, 11), (11, 11, 12), (12, 12, 13), (13, 13, 11), (14, 27, 10), (28, 30, 11),
    (31, 31, 12), (32, 32, 13), (33, 34, 14), (35, 37, 6), (38, 42, 14), (43, 43, 5), (44, 44, 8), (45, 45, 5),
    (46, 47, 8), (48, 57, 4), (58, 58, 8), (59, 64, 14), (91, 96, 14), (123, 126, 14), (127, 132, 10), (133, 133, 11),
    (134, 159, 10), (160, 160, 8), (161, 161, 14), (162, 165, 6), (166, 169, 14), (171, 172, 14), (173, 173, 10), (174, 175, 14),
    (176, 177, 6), (178, 179, 4), (180, 180, 14), (182, 184, 14), (185, 185, 4), (187, 191, 14), (215, 215, 14), (247, 247, 14),
    (768, 879, 9), (1155, 1161, 9), (1424, 1424, 2), (1425, 1469, 9), (1470, 1470, 2), (1471, 1471, 9), (1472, 1472, 2), (1473, 1474, 9),
    (1475, 1475, 2), (1476, 1477, 9), (1478, 1478, 2), (1479, 1479, 9), (1480, 1535, 2), (1536, 1541, 7), (1542, 1543, 14), (1544, 1544, 3),
    (1545, 1546, 6), (1547, 1547, 3), (1548, 1548, 8), (1549, 1549, 3), (1550, 1551, 14), (1552, 1562, 9), (1563, 1610, 3), (1611, 1631, 9),
    (1632, 1641, 7), (1642, 1642, 6), (1643, 1644, 7), (1645, 1647, 3), (1648, 1648, 9), (1649, 1749, 3), (1750, 1756, 9), (1757, 1757, 7),
    (1758, 1758, 14), (1759, 1764, 9), (1765, 1766, 3), (1767, 1768, 9), (1769, 1769, 14), (1770, 1773, 9), (1774, 1775, 3), (1776, 1785, 4),
    (1786, 1808, 3), (1809, 1809, 9), (1810, 1839, 3), (1840, 1866, 9), (1867, 1957, 3), (1958, 1968, 9), (1969, 1983, 3), (1984, 2026, 2),
    (2027, 2035, 9), (2036, 2037, 2), (2038, 2041, 14), (2042, 2143, 2), (8192, 8202, 13), (8203, 8205, 10), (8207, 8207, 2), (8208, 8231, 14),
    (8232, 8232, 13), (8233, 8233, 11), (8234, 8234, 15), (8235, 8235, 17), (8236, 8236, 19), (8237, 8237, 16), (8238, 8238, 18), (8239, 8239, 8),
    (8240, 8244, 6), (8245, 8259, 14), (8260, 8260, 8), (8261, 8286, 14), (8287, 8287, 13), (8288, 8293, 10), (8294, 8294, 20), (8295, 8295, 21),
    (8296, 8296, 22), (8297, 8297, 23), (8298, 8303, 10), (8304, 8304, 4), (8308, 8313, 4), (8314, 8315, 5), (8316, 8318, 14), (8320, 8329, 4),
    (8330, 8331, 5), (8332, 8334, 14), (8352, 8399, 6), (8400, 8432, 9), (8592, 8721, 14), (8722, 8722, 5), (8723, 8723, 6), (8724, 9013, 14),
    (9472, 9899, 14), (10214, 10223, 14), (12288, 12288, 13), (12289, 12292, 14), (12296, 12320, 14), (64285, 64285, 2), (64286, 64286, 9), (64287, 64296, 2),
    (64297, 64297, 5), (64298, 64335, 2), (64336, 65023, 3), (65024, 65039, 9), (65136, 65278, 3), (65279, 65279, 10), (67584, 69631, 2), (120782, 120831, 4),
    (124928, 126463, 2), (126464, 126719, 3), (917760, 917999, 9)]
def valid (r : Int) : Bool := (decide (0 ≤ r) && decide (r < 55296)) || (decide (57343 < r) && decide (r ≤ 1114111))
def find : List Rg → Int → Int
  | [], _ => 1
  | p :: t, r => if p.1 ≤ r ∧ r ≤ p.2.1 then p.2.2 else find t r
/-- The class by the chapter's words. -/
def cls (r : Int) : Int := if valid r = true then find rows r else 0
/-- The ranges rise behind 'last', and their classes are from 1 to 23. -/
def rises : Int → List Rg → Bool
  | _, [] => true
  | last, p :: t => decide (last < p.1) && decide (p.1 ≤ p.2.1) && decide (p.2.1 ≤ 1114111) && decide (1 ≤ p.2.2) && decide (p.2.2 ≤ 23) && rises p.2.1 t
def lo (l : List Rg) (i : Nat) : Int := (l.getD i (0, 0, 0)).1
def hi (l : List Rg) (i : Nat) : Int := (l.getD i (0, 0, 0)).2.1
def cl (l : List Rg) (i : Nat) : Int := (l.getD i (0, 0, 0)).2.2
theorem rows_rise : rises (-1) rows = true := by decide +kernel
theorem rows_len : rows.length = 147 := by decide +kernel
theorem lo_succ (p : Rg) (t : List Rg) (i : Nat) : lo (p :: t) (i + 1) = lo t i := by simp [lo]
theorem hi_succ (p : Rg) (t : List Rg) (i : Nat) : hi (p :: t) (i + 1) = hi t i := by simp [hi]
theorem cl_succ (p : Rg) (t : List Rg) (i : Nat) : cl (p :: t) (i + 1) = cl t i := by simp [cl]
theorem find_early : ∀ (l : List Rg) (last r : Int), rises last l = true → r ≤ last → find l r = 1
  | [], _, _, _, _ => rfl
  | p :: t, last, r, h, hr => by
    simp only [rises, Bool.and_eq_true, decide_eq_true_eq] at h
    obtain ⟨⟨⟨⟨⟨h1, h2⟩, h3⟩, h4⟩, h5⟩, h6⟩ := h
    simp only [find]
    rw [if_neg (by omega)]
    exact find_early t p.2.1 r h6 (by omega)
/-- Where a search by the ranges' ends stops, there the class is told. -/
theorem find_at : ∀ (l : List Rg) (last r : Int) (k : Nat), rises last l = true → k ≤ l.length → (∀ t, t < k → hi l t < r) → (∀ t, k ≤ t → t < l.length → r ≤ hi l t) →
    find l r = if k < l.length ∧ lo l k ≤ r then cl l k else 1
  | [], _, r, k, _, hk, _, _ => by
    rw [if_neg (by simp)]; rfl
  | p :: t, last, r, 0, h, _, _, h2 => by
    simp only [rises, Bool.and_eq_true, decide_eq_true_eq] at h
    obtain ⟨⟨⟨⟨⟨g1, g2⟩, g3⟩, g4⟩, g5⟩, g6⟩ := h
    have e0 := h2 0 (Nat.le_refl _) (by simp)
    have e1 : hi (p :: t) 0 = p.2.1 := rfl
    have e2 : lo (p :: t) 0 = p.1 := rfl
    have e3 : cl (p :: t) 0 = p.2.2 := rfl
    rw [e2, e3]
    rw [e1] at e0
    simp only [find]
    by_cases hp : p.1 ≤ r
    · rw [if_pos ⟨hp, e0⟩, if_pos ⟨by simp, hp⟩]
    · rw [if_neg (by omega), if_neg (by omega)]
      exact find_early t p.2.1 r g6 (by omega)
  | p :: t, last, r, k + 1, h, hk, h1, h2 => by
    simp only [rises, Bool.and_eq_true, decide_eq_true_eq] at h
    obtain ⟨⟨⟨⟨⟨g1, g2⟩, g3⟩, g4⟩, g5⟩, g6⟩ := h
    have e0 := h1 0 (by omega)
    have e1 : hi (p :: t) 0 = p.2.1 := rfl
    rw [e1] at e0
    simp only [find]
    rw [if_neg (by omega), find_at t p.2.1 r k g6 (by simpa using hk) (fun x hx => by rw [← hi_succ p]; exact h1 (x + 1) (by omega)) (fun x hx hl => by rw [← hi_succ p]; exact h2 (x + 1) (by omega) (by simpa using hl))]
    rw [lo_succ, cl_succ]
    simp
theorem cls_at {r : Int} (hv : valid r = true) (k : Nat) (hk : k ≤ 147) (h1 : ∀ t, t < k → hi rows t < r) (h2 : ∀ t, k ≤ t → t < 147 → r ≤ hi rows t) :
    cls r = if k < 147 ∧ lo rows k ≤ r then cl rows k else 1 := by
  unfold cls
  rw [if_pos hv, find_at rows (-1) r k rows_rise (by rw [rows_len]; exact hk) h1 (by rw [rows_len]; exact h2), rows_len]
theorem cls_not {r : Int} (hv : valid r = false) : cls r = 0 := by
  unfold cls; rw [if_neg (by rw [hv]; simp)]
/-- The ends rise. -/
theorem hi_mono : ∀ (l : List Rg) (last : Int) (a b : Nat), rises last l = true → a ≤ b → b < l.length → hi l a ≤ hi l b ∧ last < hi l a
  | [], _, _, b, _, _, hb => by simp at hb
  | p :: t, last, a, b, h, hab, hb => by
    simp only [rises, Bool.and_eq_true, decide_eq_true_eq] at h
    obtain ⟨⟨⟨⟨⟨g1, g2⟩, g3⟩, g4⟩, g5⟩, g6⟩ := h
    have e1 : hi (p :: t) 0 = p.2.1 := rfl
    match a, b with
    | 0, 0 => rw [e1]; omega
    | 0, b + 1 =>
      rw [e1, hi_succ]
      have := hi_mono t p.2.1 b b g6 (Nat.le_refl _) (by simpa using hb)
      omega
    | a + 1, 0 => omega
    | a + 1, b + 1 =>
      rw [hi_succ, hi_succ]
      have := hi_mono t p.2.1 a b g6 (by omega) (by simpa using hb)
      omega
theorem hi_rows {a b : Nat} (h : a ≤ b) (hb : b < 147) : hi rows a ≤ hi rows b := (hi_mono rows (-1) a b rows_rise h (by rw [rows_len]; exact hb)).1
/-- What a row's numbers may be. -/
theorem row_ok : ∀ (l : List Rg) (last : Int) (i : Nat), rises last l = true → i < l.length → last < lo l i ∧ lo l i ≤ hi l i ∧ hi l i ≤ 1114111 ∧ 1 ≤ cl l i ∧ cl l i ≤ 23
  | [], _, i, _, hi => by simp at hi
  | p :: t, last, 0, h, _ => by
    simp only [rises, Bool.and_eq_true, decide_eq_true_eq] at h
    obtain ⟨⟨⟨⟨⟨g1, g2⟩, g3⟩, g4⟩, g5⟩, g6⟩ := h
    exact ⟨g1, g2, g3, g4, g5⟩
  | p :: t, last, i + 1, h, hi' => by
    simp only [rises, Bool.and_eq_true, decide_eq_true_eq] at h
    obtain ⟨⟨⟨⟨⟨g1, g2⟩, g3⟩, g4⟩, g5⟩, g6⟩ := h
    rw [lo_succ, hi_succ, cl_succ]
    have := row_ok t p.2.1 i g6 (by simpa using hi')
    omega
theorem rows_ok {i : Nat} (h : i < 147) : 0 ≤ lo rows i ∧ lo rows i ≤ hi rows i ∧ hi rows i ≤ 1114111 ∧ 1 ≤ cl rows i ∧ cl rows i ≤ 23 := by
  have := row_ok rows (-1) i rows_rise (by rw [rows_len]; exact h)
  omega
/-- Three cells a row, one behind the other. -/
def flat {V : Type} (f : Rg → List V) (l : List Rg) : List V := l.flatMap f
theorem flat_at {V : Type} (f : Rg → List V) (hf : ∀ p, (f p).length = 3) : ∀ (l : List Rg) (i j : Nat), i < l.length → j < 3 → (flat f l)[i * 3 + j]? = (f (l.getD i (0, 0, 0)))[j]?
  | [], i, _, h, _ => by simp at h
  | p :: t, 0, j, _, hj => by
    simp only [flat, List.flatMap_cons]
    rw [List.getElem?_append_left (by rw [hf]; omega)]
    simp
  | p :: t, i + 1, j, h, hj => by
    simp only [flat, List.flatMap_cons]
    rw [List.getElem?_append_right (by rw [hf]; omega), hf, show (i + 1) * 3 + j - 3 = i * 3 + j from by omega]
    have := flat_at f hf t i j (by simpa using h) hj
    simp only [flat] at this
    rw [this]
    simp
theorem flat_len {V : Type} (f : Rg → List V) (hf : ∀ p, (f p).length = 3) : ∀ (l : List Rg), (flat f l).length = 3 * l.length
  | [] => rfl
  | p :: t => by
    have := flat_len f hf t
    simp only [flat] at this
    simp only [flat, List.flatMap_cons, List.length_append, hf, this, List.length_cons]
    omega
def brackets : List (Int × Int) := [
    (40, 41), (91, 93), (123, 125), (8261, 8262), (8317, 8318), (8333, 8334), (9001, 9002), (10214, 10215), (10216, 10217), (10218, 10219),
    (10220, 10221), (10222, 10223), (12296, 12297), (12298, 12299), (12300, 12301), (12302, 12303), (12304, 12305), (12308, 12309), (12310, 12311), (12312, 12313),
    (12314, 12315)]
def mirrored : List (Int × Int) := [
    (60, 62), (171, 187), (8249, 8250), (8712, 8715), (8804, 8805), (8806, 8807), (8810, 8811), (8822, 8823), (8834, 8835), (8838, 8839)]
end Ucd
end Go.Proofs.YtfadjgaledddjaaGreatDoor

/- The table that the function 'table' answers: its contract. -/
namespace Go.Proofs.YtfadjgaledddjaaGreatDoor
open Go.RowKit
set_option linter.unusedVariables false
/-- A row's cells, as the program keeps them. -/
def rowCells (p : Ucd.Rg) : List Value := [.int .i32 p.1, .int .i32 p.2.1, .int .i64 p.2.2]
def tableCells : Array Value := (Ucd.flat rowCells Ucd.rows).toArray
/-- An operation that builds a value of constants alone: the slot, the value's cells. -/
def constOf : Operand → Option Value
  | .const v => some v
  | _ => none
def partsOf : List (Nat × Operand) → Option (List (Nat × Value))
  | [] => some []
  | (i, x) :: t => match constOf x, partsOf t with
    | some v, some r => some ((i, v) :: r)
    | _, _ => none
def builtBy (P : Program) (o : Oper) : Option (Tmp × Array Value) :=
  match o.guard, o.dst, o.op with
  | none, some d, .build t parts => match partsOf parts.toList with
    | some vs => (P.built t vs).map fun c => (d, c)
    | none => none
  | _, _, _ => none
theorem partsOf_eval (a : Act) : ∀ (l : List (Nat × Operand)) (vs : List (Nat × Value)), partsOf l = some vs → l.map (fun (i, x) => (i, a.eval x)) = vs
  | [], vs, h => by simp [partsOf] at h; subst h; rfl
  | (i, x) :: t, vs, h => by
    simp only [partsOf] at h
    split at h
    · rename_i v r hv hr
      cases h
      cases x <;> simp [constOf] at hv
      subst hv
      simp only [List.map_cons, partsOf_eval a t r hr]
      rfl
    · cases h
theorem wpList_builds {P : Program} {ops : Array Oper} {Q : Exit → Act → World → Prop} : ∀ (l : List Oper) (vs : List (Tmp × Array Value)) (rest : List Oper) (a : Act) (w : World),
    l.mapM (builtBy P) = some vs → wpList P ops Q rest (vs.foldl (fun a p => a.put (some p.1) (.agg p.2)) a) w → wpList P ops Q (l ++ rest) a w
  | [], vs, rest, a, w, h, hw => by simp at h; subst h; exact hw
  | o :: l, vs, rest, a, w, h, hw => by
    simp only [List.mapM_cons, Option.bind_eq_bind, Option.pure_def] at h
    cases hb : builtBy P o with
    | none => simp [hb] at h
    | some p =>
      cases hr : l.mapM (builtBy P) with
      | none => simp [hb, hr] at h
      | some r =>
        simp [hb, hr] at h
        subst h
        obtain ⟨d, c⟩ := p
        unfold builtBy at hb
        split at hb
        · rename_i t parts hg hd ho
          split at hb
          · rename_i us hu
            simp only [Option.map_eq_some_iff, Prod.mk.injEq] at hb
            obtain ⟨c', hc, rfl, rfl⟩ := hb
            refine wpList_buildTo hg t parts ho _ hd c' ?_ ?_
            · rw [Array.toList_map, partsOf_eval a _ _ hu]; exact hc
            · exact wpList_builds l r rest _ w hr hw
          · cases hb
        · cases hb
/-- Values for slots from k on. -/
def numbered : Nat → List (Array Value) → List (Tmp × Array Value)
  | _, [] => []
  | k, c :: cs => (k, c) :: numbered (k + 1) cs
abbrev puts (vs : List (Tmp × Array Value)) (a : Act) : Act := vs.foldl (fun a p => a.put (some p.1) (.agg p.2)) a
theorem puts_size : ∀ (vs : List (Tmp × Array Value)) (a : Act), (puts vs a).tmps.size = a.tmps.size
  | [], _ => rfl
  | p :: vs, a => by
    have := puts_size vs (a.put (some p.1) (.agg p.2))
    simp only [puts, List.foldl_cons] at this ⊢
    rw [this]; simp [Act.put]
theorem puts_defers : ∀ (vs : List (Tmp × Array Value)) (a : Act), (puts vs a).defers = a.defers
  | [], _ => rfl
  | p :: vs, a => by
    have := puts_defers vs (a.put (some p.1) (.agg p.2))
    simp only [puts, List.foldl_cons] at this ⊢
    rw [this]; rfl
theorem puts_low : ∀ (cs : List (Array Value)) (k i : Nat) (a : Act), i < k → (puts (numbered k cs) a).tmps.getD i undef = a.tmps.getD i undef
  | [], _, _, _, _ => rfl
  | c :: cs, k, i, a, h => by
    have := puts_low cs (k + 1) i (a.put (some k) (.agg c)) (by omega)
    simp only [puts, numbered, List.foldl_cons] at this ⊢
    rw [this]
    simp [Act.put, show ¬ k = i from by omega]
theorem puts_at : ∀ (cs : List (Array Value)) (k i : Nat) (a : Act), k + cs.length ≤ a.tmps.size → i < cs.length → (puts (numbered k cs) a).tmps.getD (k + i) undef = .agg (cs.getD i #[])
  | [], _, _, _, _, h => by simp at h
  | c :: cs, k, 0, a, hs, _ => by
    have := puts_low cs (k + 1) k (a.put (some k) (.agg c)) (by omega)
    simp only [puts, numbered, List.foldl_cons, Nat.add_zero] at this ⊢
    rw [this]
    simp at hs
    simp [Act.put, show k < a.tmps.size from by omega]
  | c :: cs, k, i + 1, a, hs, h => by
    have := puts_at cs (k + 1) i (a.put (some k) (.agg c)) (by simp [Act.put] at hs ⊢; omega) (by simpa using h)
    simp only [puts, numbered, List.foldl_cons] at this ⊢
    rw [show k + (i + 1) = k + 1 + i from by omega, this]
    simp
theorem parts_slots (a : Act) (cs : List (Array Value)) (k : Nat) (hs : k + cs.length ≤ a.tmps.size) (parts : Array (Nat × Operand)) (hp : parts.toList = (List.range cs.length).map fun i => (i, Operand.tmp (k + i))) :
    (parts.map fun (i, x) => (i, (puts (numbered k cs) a).eval x)).toList = (List.range cs.length).map fun i => (i, Value.agg (cs.getD i #[])) := by
  rw [Array.toList_map, hp, List.map_map]
  apply List.map_congr_left
  intro i hi
  simp only [List.mem_range] at hi
  show (i, (puts (numbered k cs) a).tmps.getD (k + i) undef) = _
  rw [puts_at cs k i a hs hi]
theorem wpList_run {P : Program} {ops : Array Oper} {rest : List Oper} {o : Oper} {a : Act} {w : World} {Q : Exit → Act → World → Prop} (hg : o.guard = none) (dst : Option Tmp) (hdst : o.dst = dst)
    (v : Value) (w' : World) (hrun : (execOp a.eval o).run P w = .ok (.value v) w')
    (h : wpList P ops Q rest (a.put dst v) w') : wpList P ops Q (o :: rest) a w := by
  subst hdst
  refine wpList_plain hg fun K hK => ?_
  unfold Oper.wp
  rw [hrun, Oper.upon_value]
  exact hK _ _ h
theorem put_other (a : Act) (d i : Nat) (v : Value) (h : ¬ d = i) : (a.put (some d) v).tmps.getD i undef = a.tmps.getD i undef := by simp [Act.put, h]
theorem put_same (a : Act) (d : Nat) (v : Value) (h : d < a.tmps.size) : (a.put (some d) v).tmps.getD d undef = v := by simp [Act.put, h]
theorem put_size (a : Act) (d : Nat) (v : Value) : (a.put (some d) v).tmps.size = a.tmps.size := by simp [Act.put]
/-- A call without arguments, its frame a letter. -/
theorem calls_bare {P : Program} {f : FuncId} {fn : Func} {c : Code} {w : World} {R : Ending → World → Prop} (n : Nat)
    (hf : P.funcs[f]? = some fn) (hb : fn.body = some c) (hn : fn.ntmps = n)
    (h : ∀ a : Act, a.tmps.size = n → a.defers = [] → c.wp P (bodyPost P fn R) a w) : Calls P f #[] w R :=
  calls_of_wp hf hb (h _ (by simp [hn]) rfl)
/-- A region that builds n values of constants, one of all of these, and stores it into a block. -/
def lastOf (o : Oper) : Option (Tmp × TypeId × List (Nat × Operand)) :=
  match o.guard, o.dst, o.op with
  | none, some d, .build t parts => some (d, t, parts.toList)
  | _, _, _ => none
def storeOf (o : Oper) : Option (TypeId × Operand × Operand) :=
  match o.guard, o.dst, o.op with
  | none, none, .store t x y => some (t, x, y)
  | _, _, _ => none
theorem wpList_tab {P : Program} {ops : Array Oper} {Q : Exit → Act → World → Prop} {l : List Oper} {a : Act} {w : World} (cs : List (Array Value)) (d : Tmp) (t : TypeId) (x : Operand) (cells : Array Value)
    (hs : 1 + cs.length < a.tmps.size) (hl : l.length = cs.length + 2) (h1 : (l.take cs.length).mapM (builtBy P) = some (numbered 1 cs))
    (h2 : (l[cs.length]?).bind lastOf = some (d, t, (List.range cs.length).map fun i => (i, Operand.tmp (1 + i)))) (hd : d = 1 + cs.length)
    (h3 : P.built t ((List.range cs.length).map fun i => (i, Value.agg (cs.getD i #[]))) = some cells)
    (h4 : (l[cs.length + 1]?).bind storeOf = some (t, x, .tmp d))
    (g : Nat) (hx : x = .tmp 0) (h0 : a.tmps.getD 0 undef = .pointer (some ⟨g, 0, none⟩)) (e : TypeId) (old : Array Value) (hg : w.heap[g]? = some (.cells old e (0, 0)))
    (hi : (P.info? t).map (·.size) = some cells.size) (hold : old.size = cells.size) (hone : cells.all (·.oneCell') = true)
    (h : ∀ a' : Act, a'.defers = a.defers → a'.tmps.size = a.tmps.size → a'.tmps.getD 0 undef = .pointer (some ⟨g, 0, none⟩) → Q .normal a' (w.setRow g cells)) : wpList P ops Q l a w := by
  have hsplit : l = l.take cs.length ++ l.drop cs.length := (List.take_append_drop _ _).symm
  rw [hsplit]
  refine wpList_builds _ _ _ _ _ h1 ?_
  have e1 : cs.length < l.length := by omega
  have e2 : cs.length + 1 < l.length := by omega
  rw [List.drop_eq_getElem_cons e1, List.drop_eq_getElem_cons e2, List.drop_of_length_le (by omega)]
  rw [List.getElem?_eq_getElem e1, Option.bind_some] at h2
  rw [List.getElem?_eq_getElem e2, Option.bind_some] at h4
  unfold lastOf at h2
  split at h2
  · rename_i d1 t1 parts hg1 hd1 ho1
    simp only [Option.some.injEq, Prod.mk.injEq] at h2
    obtain ⟨rfl, rfl, hp⟩ := h2
    unfold storeOf at h4
    split at h4
    · rename_i ty x1 y1 hg2 hd2 ho2
      simp only [Option.some.injEq, Prod.mk.injEq] at h4
      obtain ⟨rfl, rfl, rfl⟩ := h4
      subst hd
      refine wpList_buildTo hg1 _ parts ho1 _ hd1 cells ?_ ?_
      · rw [parts_slots a cs 1 (by omega) parts hp]; exact h3
      · have hsz := puts_size (numbered 1 cs) a
        have z0 : ((puts (numbered 1 cs) a).put (some (1 + cs.length)) (.agg cells)).tmps.getD 0 undef = .pointer (some ⟨g, 0, none⟩) := by
          rw [put_other _ _ _ _ (by omega), puts_low cs 1 0 a (by omega), h0]
        refine wpList_store_rowTo hg2 _ _ _ ho2 hd2 g cells ?_ ?_ e old hg hi hold hone ?_
        · rw [hx]; exact z0
        · exact put_same _ _ _ (by rw [hsz]; omega)
        · refine wpList_nil (h _ ?_ ?_ z0)
          · exact puts_defers (numbered 1 cs) a
          · rw [put_size, hsz]
    · cases h4
  · cases h2
def rowArrays : List (Array Value) := Ucd.rows.map fun p => (rowCells p).toArray
def zeroCells : Array Value := (Ucd.flat (fun _ => rowCells (0, 0, 0)) Ucd.rows).toArray
theorem tableBuilt : Tryz.prog.built 89 ((List.range rowArrays.length).map fun i => (i, Value.agg (rowArrays.getD i #[]))) = some tableCells := by kernel_rfl
theorem tableInfo : (Tryz.prog.info? 89).map (fun i => (i.zero, i.size)) = some (some (.agg zeroCells), 441) := by kernel_rfl
theorem tableOne : tableCells.all (·.oneCell') = true := by kernel_rfl
theorem tableSize : tableCells.size = 441 := by kernel_rfl
theorem zeroSize : zeroCells.size = 441 := by kernel_rfl
theorem rowsLen : rowArrays.length = 147 := by kernel_rfl
theorem tableInfo' : (Tryz.prog.info? 89).map (·.size) = some tableCells.size := by
  rw [tableSize]; exact (zero_of_info tableInfo).2
set_option maxRecDepth 100000 in
theorem table_any (w : World) : Calls Tryz.prog 49 #[] w fun e w' => e = .returned (.agg tableCells) ∧ Below w.heap.size w w' := by
  refine calls_bare 149 Tryz.func49 rfl Tryz.ntmps49 fun a hs hdf => ?_
  refine wp_seq ?_
  refine wp_region_list ?_
  refine wpList_run rfl (some 0) rfl (.pointer (some ⟨w.heap.size, 0, none⟩)) (w.alloc (.cells zeroCells 89)) ?_ ?_
  · have hz := (zero_of_info tableInfo).1
    simp [execOp, hz, go_sem]
  refine wpList_nil ?_
  refine wp_seq ?_
  refine wp_region_list ?_
  refine wpList_tab rowArrays 148 89 (.tmp 0) tableCells (by rw [put_size, rowsLen]; omega) (by kernel_rfl) (by kernel_rfl) (by kernel_rfl) (by kernel_rfl) tableBuilt (by kernel_rfl) w.heap.size rfl
    (put_same _ _ _ (by omega)) 89 zeroCells (heap_alloc_last w _) tableInfo' (by rw [zeroSize, tableSize]) tableOne ?_
  intro a' hd hsz h0
  rw [World.setRow_alloc_new]
  refine wp_ret ?_
  exact bodyPost_ret (results_cell_row Tryz.results49 _ _ w.heap.size 89 tableCells (0, 0) _ h0 (heap_alloc_last w _) Tryz.underlying89 rfl tableInfo') (hd.trans hdf)
    ⟨rfl, (Below.refl _ _).alloc (Nat.le_refl _) _⟩
end Go.Proofs.YtfadjgaledddjaaGreatDoor

/- Contracts of utf8.ValidRune, the closure of Class, sort.Search, Class. -/
namespace Go.Proofs.YtfadjgaledddjaaGreatDoor
open Go.RowKit
set_option linter.unusedVariables false
set_option maxHeartbeats 1000000
set_option maxRecDepth 100000
theorem valid_any (r : Int) (w : World) (hr : (Lit.int .i32 r).wf = true) :
    Calls Tryz.prog 48 #[.int .i32 r] w fun e w' => e = .returned (.bool (Ucd.valid r)) ∧ w = w' := by
  have hv : Ucd.valid r = Ucd.valid r := rfl
  clear hr
  unfold Ucd.valid at hv
  by_cases h0 : 0 ≤ r
  · by_cases h1 : r < 55296
    · go_enter Tryz.func48, Tryz.ntmps48
      go_wp2
      go_ret
      exact ⟨ret_bool (by simp [Ucd.valid]; omega), rfl⟩
    · by_cases h2 : 57343 < r
      · by_cases h3 : r ≤ 1114111
        · go_enter Tryz.func48, Tryz.ntmps48
          go_wp2
          go_ret
          exact ⟨ret_bool (by simp [Ucd.valid]; omega), rfl⟩
        · go_enter Tryz.func48, Tryz.ntmps48
          go_wp2
          go_ret
          exact ⟨ret_bool (by simp [Ucd.valid]; omega), rfl⟩
      · go_enter Tryz.func48, Tryz.ntmps48
        go_wp2
        go_ret
        exact ⟨ret_bool (by simp [Ucd.valid]; omega), rfl⟩
  · by_cases h2 : 57343 < r
    · omega
    · go_enter Tryz.func48, Tryz.ntmps48
      go_wp2
      go_ret
      exact ⟨ret_bool (by simp [Ucd.valid]; omega), rfl⟩
theorem closure_any (r h : Int) (i : Nat) (bR bT : Nat) (w : World) (hi : i < 147) (hR : w.cell? ⟨bR, 0, none⟩ = some (.int .i32 r)) (hT : w.cell? ⟨bT, i * 3 + 1, none⟩ = some (.int .i32 h)) :
    Calls Tryz.prog 51 #[.int .i64 i, .pointer (some ⟨bR, 0, none⟩), .pointer (some ⟨bT, 0, none⟩)] w fun e w' => e = .returned (.bool (decide (r ≤ h))) ∧ Below w.heap.size w w' := by
  go_enter Tryz.func51, Tryz.ntmps51
  go_wp2_with fail
  go_region
  all_goals (try go_wp2)
  all_goals go_ret
  all_goals exact ⟨rfl, (Below.refl _ _).drew⟩
/-- The table lies in a block. -/
def TabAt (w : World) (b : Nat) : Prop := ∀ i, i < 441 → w.cell? ⟨b, i, none⟩ = tableCells[i]?
theorem TabAt.at {w : World} {b : Nat} (h : TabAt w b) {i : Nat} (hi : i < 147) :
    w.cell? ⟨b, i * 3, none⟩ = some (.int .i32 (Ucd.lo Ucd.rows i)) ∧ w.cell? ⟨b, i * 3 + 1, none⟩ = some (.int .i32 (Ucd.hi Ucd.rows i)) ∧ w.cell? ⟨b, i * 3 + 2, none⟩ = some (.int .i64 (Ucd.cl Ucd.rows i)) := by
  have e : ∀ j, j < 3 → w.cell? ⟨b, i * 3 + j, none⟩ = (rowCells (Ucd.rows.getD i (0, 0, 0)))[j]? := fun j hj => by
    rw [h (i * 3 + j) (by omega), tableCells, List.getElem?_toArray, Ucd.flat_at rowCells (fun _ => rfl) Ucd.rows i j (by rw [Ucd.rows_len]; exact hi) hj]
  exact ⟨e 0 (by omega), e 1 (by omega), e 2 (by omega)⟩
theorem TabAt.mono {w w' : World} {b B : Nat} (h : TabAt w b) (hb : Below B w w') (hB : b < B) : TabAt w' b := fun i hi => (hb.cell (p := ⟨b, i, none⟩) hB).trans (h i hi)
theorem tabAt_new (w : World) : TabAt (w.alloc (.cells tableCells 89)) w.heap.size := fun i hi => by
  unfold World.cell?
  rw [heap_alloc_last]
  rfl
theorem search_any (r : Int) (bR bT : Nat) (w : World) (hbR : bR < w.heap.size) (hbT : bT < w.heap.size) (hR : w.cell? ⟨bR, 0, none⟩ = some (.int .i32 r)) (hT : TabAt w bT) :
    Calls Tryz.prog 50 #[.int .i64 147, .func (.func 51) #[] #[.pointer (some ⟨bR, 0, none⟩), .pointer (some ⟨bT, 0, none⟩)]] w fun e w' =>
      ∃ k : Nat, e = .returned (.int .i64 k) ∧ Below w.heap.size w w' ∧ k ≤ 147 ∧ (∀ t, t < k → Ucd.hi Ucd.rows t < r) ∧ (∀ t, k ≤ t → t < 147 → r ≤ Ucd.hi Ucd.rows t) := by
  have HF : Hid (∀ w', Below w.heap.size w w' → ∀ i : Nat, i < 147 → Calls Tryz.prog 51 #[.int .i64 i, .pointer (some ⟨bR, 0, none⟩), .pointer (some ⟨bT, 0, none⟩)] w' fun e w'' => e = .returned (.bool (decide (r ≤ Ucd.hi Ucd.rows i))) ∧ Below w.heap.size w w'') :=
    hide fun w' hb i hi => (closure_any r _ i bR bT w' hi ((hb.cell (p := ⟨bR, 0, none⟩) hbR).trans hR) ((hT.mono hb hbT).at hi).2.1).mono fun e w'' ⟨h1, h2⟩ => ⟨h1, hb.trans (h2.mono hb.size)⟩
  clear hR hT hbR hbT
  go_enter Tryz.func50, Tryz.ntmps50
  go_wp2_with fail
  go_loopw [5, 6] (fun s5 s6 wr => ∃ (lo hi : Nat), s5 = .int .i64 lo ∧ s6 = .int .i64 hi ∧ lo ≤ hi ∧ hi ≤ 147 ∧ Below w.heap.size w wr ∧ Hid ((∀ t, t < lo → Ucd.hi Ucd.rows t < r) ∧ (∀ t, hi ≤ t → t < 147 → r ≤ Ucd.hi Ucd.rows t))) (fun s5 s6 _ => (intOf s6 - intOf s5).toNat)
  case atStart => exact ⟨0, 147, rfl, rfl, by omega, by omega, Below.refl _ _, hide ⟨fun t ht => by omega, fun t h1 h2 => by omega⟩⟩
  case round =>
    obtain ⟨lo, hi, rfl, rfl, hlh, hin, hb, I⟩ := hrel
    by_cases hlt : lo < hi
    · have hc := HF.out wr hb ((lo + hi) / 2) (by omega)
      rw [show (((lo + hi) / 2 : Nat) : Int) = ((lo : Int) + (hi : Int)) / 2 by omega] at hc
      by_cases hp : r ≤ Ucd.hi Ucd.rows ((lo + hi) / 2)
      · rw [decide_eq_true hp] at hc
        have HP := hide hp
        clear hp
        go_wp2_with (go_at_call 51; refine hc.mono ?_; rintro e w' ⟨rfl, hb'⟩)
        go_roundw
        case rel => exact ⟨lo, (lo + hi) / 2, rfl, by congr 1, by omega, by omega, hb', hide ⟨I.out.1, fun t h1 h2 => Int.le_trans HP.out (Ucd.hi_rows h1 h2)⟩⟩
        case measure => simp [intOf]; omega
      · rw [decide_eq_false hp] at hc
        have HP := hide hp
        clear hp
        go_wp2_with (go_at_call 51; refine hc.mono ?_; rintro e w' ⟨rfl, hb'⟩)
        go_roundw
        case rel => exact ⟨(lo + hi) / 2 + 1, hi, by congr 1, rfl, by omega, by omega, hb', hide ⟨fun t h1 => by have := Ucd.hi_rows (a := t) (b := (lo + hi) / 2) (by omega) (by omega); have := HP.out; omega, I.out.2⟩⟩
        case measure => simp [intOf]; omega
    · obtain rfl : lo = hi := by omega
      go_wp2
      go_ret
      exact ⟨lo, rfl, hb, hin, I.out.1, I.out.2⟩
/-- A whole value goes into the block that was made last. -/
theorem wpList_store_new {P : Program} {ops : Array Oper} {rest : List Oper} {o : Oper} {a : Act} {Q : Exit → Act → World → Prop} (w : World) (hgd : o.guard = none) (ty : TypeId) (x y : Operand) (ho : o.op = .store ty x y)
    (hd : o.dst = none) (c c' : Array Value) (hx : a.eval x = .pointer (some ⟨w.heap.size, 0, none⟩)) (hy : a.eval y = .agg c') (hi : (P.info? ty).map (·.size) = some c'.size)
    (hold : c.size = c'.size) (h1 : c'.all (·.oneCell') = true)
    (h : wpList P ops Q rest a (w.alloc (.cells c' ty))) : wpList P ops Q (o :: rest) a (w.alloc (.cells c ty)) :=
  wpList_store_rowTo hgd ty x y ho hd w.heap.size c' hx hy ty c (heap_alloc_last w _) hi hold h1 (by rw [World.setRow_alloc_new]; exact h)
theorem class_any (r : Int) (w : World) (hr : (Lit.int .i32 r).wf = true) :
    Calls Tryz.prog 26 #[.int .i32 r] w fun e w' => e = .returned (.int .i64 (Ucd.cls r)) ∧ Below w.heap.size w w' := by
  have hz := (zero_of_info tableInfo).1
  have HV := hide (valid_any r (w.alloc (.cells #[.int .i32 r] 21)) hr)
  have hcR : (w.alloc (.cells #[.int .i32 r] 21)).cell? ⟨w.heap.size, 0, none⟩ = some (.int .i32 r) := by rw [World.cell?_alloc_at _ _ _ _ (by simp)]; rfl
  have HB := hide (show Below w.heap.size w (w.alloc (.cells #[.int .i32 r] 21)) from (Below.refl _ _).alloc (Nat.le_refl _) _)
  have HS := hide (show (w.alloc (.cells #[.int .i32 r] 21)).heap.size = w.heap.size + 1 from by simp)
  have hc := hcR
  clear hr
  cases hv : Ucd.valid r
  · have HC := hide (Ucd.cls_not hv)
    rw [hv] at HV
    clear hv
    go_enter Tryz.func26, Tryz.ntmps26
    go_wp2_with fail
    refine HV.out.mono ?_
    rintro e w1 ⟨rfl, rfl⟩
    go_wp2
    go_ret
    exact ⟨ret_int HC.out.symm, HB.out⟩
  · have HVV := hide hv
    rw [hv] at HV
    clear hv
    go_enter Tryz.func26, Tryz.ntmps26
    go_wp2_with fail
    refine HV.out.mono ?_
    rintro e w1 ⟨rfl, rfl⟩
    generalize w.alloc (.cells #[.int .i32 r] 21) = W at *
    go_wp2_with fail
    refine (table_any W).mono ?_
    rintro e w2 ⟨rfl, hb2⟩
    go_wp2_with (refine wpList_store_new w2 rfl 89 _ _ rfl rfl zeroCells tableCells rfl rfl tableInfo' (by rw [zeroSize, tableSize]) tableOne ?_)
    have hbw : Below w.heap.size w (w2.alloc (.cells tableCells 89)) := (HB.out.trans (hb2.mono (by have := HS.out; omega))).alloc (by have := HS.out; have := hb2.size; omega) _
    have hlt : w.heap.size < w2.heap.size := by have := HS.out; have := hb2.size; omega
    have hR : (w2.alloc (.cells tableCells 89)).cell? ⟨w.heap.size, 0, none⟩ = some (.int .i32 r) := by
      rw [World.cell?_alloc_past _ _ _ (by exact hlt)]
      exact (hb2.cell (p := ⟨w.heap.size, 0, none⟩) (by have := HS.out; show w.heap.size < _; omega)).trans hc
    have hT := tabAt_new w2
    have hs3 : (w2.alloc (.cells tableCells 89)).heap.size = w2.heap.size + 1 := by simp
    clear hb2 hc hcR HV HB HS hz
    generalize hb : w2.heap.size = b at *
    clear hb
    generalize w2.alloc (.cells tableCells 89) = W3 at *
    refine (search_any r w.heap.size b W3 (by omega) (by omega) hR hT).mono ?_
    rintro e w4 ⟨k, rfl, hb4, hk, h1, h2⟩
    have HC := hide (Ucd.cls_at HVV.out k hk h1 h2)
    have HB := hide (hbw.trans (hb4.mono (by omega)))
    have hR4 := (hb4.cell (p := ⟨w.heap.size, 0, none⟩) (by show w.heap.size < _; omega)).trans hR
    have hT4 := hT.mono hb4 (by omega)
    clear h1 h2 hT hR hbw hb4
    by_cases hkk : k < 147
    · obtain ⟨c0, c1, c2⟩ := hT4.at hkk
      have hkI : (k : Int) < 147 := by omega
      clear hT4
      generalize Ucd.lo Ucd.rows k = L at *
      generalize Ucd.cl Ucd.rows k = C at *
      by_cases hl : L ≤ r
      · rw [if_pos ⟨hkk, hl⟩] at HC
        go_wp2_with fail
        go_region
        all_goals (try go_wp2)
        all_goals go_ret
        all_goals exact ⟨ret_int HC.out.symm, HB.out.drew⟩
      · rw [if_neg (fun h => hl h.2)] at HC
        go_wp2_with fail
        go_region
        all_goals (try go_wp2)
        all_goals go_ret
        all_goals exact ⟨ret_int HC.out.symm, HB.out.drew⟩
    · obtain rfl : k = 147 := by omega
      rw [if_neg (by omega)] at HC
      clear hT4
      go_wp2_with fail
      go_region
      all_goals (try go_wp2)
      all_goals go_ret
      all_goals exact ⟨ret_int HC.out.symm, HB.out.drew⟩
end Go.Proofs.YtfadjgaledddjaaGreatDoor

/- Plain mathematics of brackets and mirrored ones. No Go in sight. -/
namespace Go.Proofs.YtfadjgaledddjaaGreatDoor
namespace Ucd
/-- What a map of the brackets tells: the last one that was put. -/
def look (l : List (Int × Int)) (r : Int) (acc : Int × Int) : Int × Int := l.foldl (fun acc p => if r = p.2 then (2, p.1) else if r = p.1 then (1, p.2) else acc) acc
def side (r : Int) : Int × Int := look brackets r (0, 0)
def oth : List (Int × Int) → Int → Option Int
  | [], _ => none
  | p :: t, r => if r = p.1 then some p.2 else if r = p.2 then some p.1 else oth t r
/-- The mirror image, and whether there is one. -/
def mir (r : Int) : Int × Bool := if (side r).1 = 0 then (match oth mirrored r with | some m => (m, true) | none => (0, false)) else ((side r).2, true)
def canon (r : Int) : Int := if r = 9001 then 12296 else if r = 9002 then 12297 else r
def flat2 (l : List (Int × Int)) : List Int := l.flatMap fun p => [p.1, p.2]
def br : List Int := flat2 brackets
def ot : List Int := flat2 mirrored
/-- The first place of a number in a list of pairs, and the one beside it. -/
def part (l : List Int) (r : Int) : Int × Int := match l.findIdx? (· == r) with
  | some i => ((i : Int), if i % 2 = 0 then l.getD (i + 1) 0 else l.getD (i - 1) 0)
  | none => (-1, 0)
theorem look_not : ∀ (l : List (Int × Int)) (r : Int) (acc : Int × Int), r ∉ flat2 l → look l r acc = acc
  | [], _, _, _ => rfl
  | p :: t, r, acc, h => by
    simp only [flat2, List.flatMap_cons, List.mem_append, List.mem_cons, List.not_mem_nil, or_false, not_or] at h
    have := look_not t r acc h.2
    simp only [look, List.foldl_cons] at this ⊢
    rw [if_neg h.1.2, if_neg h.1.1]
    exact this
theorem oth_not : ∀ (l : List (Int × Int)) (r : Int), r ∉ flat2 l → oth l r = none
  | [], _, _ => rfl
  | p :: t, r, h => by
    simp only [flat2, List.flatMap_cons, List.mem_append, List.mem_cons, List.not_mem_nil, or_false, not_or] at h
    rw [oth, if_neg h.1.1, if_neg h.1.2]
    exact oth_not t r h.2
theorem part_not (l : List Int) (r : Int) (h : r ∉ l) : part l r = (-1, 0) := by
  unfold part
  have : l.findIdx? (· == r) = none := by
    rw [List.findIdx?_eq_none_iff]
    intro x hx
    simp only [beq_eq_false_iff_ne, ne_eq]
    intro e
    exact h (e ▸ hx)
  rw [this]
theorem side_not {r : Int} (h : r ∉ br) : side r = (0, 0) := look_not brackets r _ h
theorem mir_not {r : Int} (h : r ∉ br) (h' : r ∉ ot) : mir r = (0, false) := by
  unfold mir
  rw [side_not h, if_pos rfl, oth_not mirrored r h']
/-- What is so of all of a list's numbers. -/
theorem of_all {l : List Int} {p : Int → Bool} (h : l.all p = true) {r : Int} (hr : r ∈ l) : p r = true := List.all_eq_true.1 h r hr
/-- The document's own brackets. -/
def rside (r : Int) : Int × Int := if (part br r).1 < 0 then (0, 0) else (1 + (part br r).1 % 2, (part br r).2)
theorem rside_eq (r : Int) : rside r = side r := by
  by_cases h : r ∈ br
  · have := of_all (p := fun r => rside r == side r) (by decide +kernel) h
    exact eq_of_beq this
  · unfold rside
    rw [part_not _ _ h, side_not h]
    rfl
def rmir (r : Int) : Int × Bool := ((part (br ++ ot) r).2, decide (0 ≤ (part (br ++ ot) r).1))
theorem rmir_eq (r : Int) : rmir r = mir r := by
  by_cases h : r ∈ br ++ ot
  · have := of_all (p := fun r => rmir r == mir r) (by decide +kernel) h
    exact eq_of_beq this
  · unfold rmir
    rw [part_not _ _ h]
    simp only [List.mem_append, not_or] at h
    rw [mir_not h.1 h.2]
    rfl
/-- All brackets have the class 14. -/
theorem side_class {r : Int} (h : ¬ cls r = 14) : side r = (0, 0) := by
  by_cases hb : r ∈ br
  · have := of_all (p := fun r => cls r == 14) (by decide +kernel) hb
    exact absurd (eq_of_beq this) h
  · exact side_not hb
theorem side_ok (r : Int) : 0 ≤ (side r).1 ∧ (side r).1 ≤ 2 ∧ 0 ≤ (side r).2 ∧ (side r).2 ≤ 1114111 := by
  by_cases hb : r ∈ br
  · have := of_all (p := fun r => decide (0 ≤ (side r).1 ∧ (side r).1 ≤ 2 ∧ 0 ≤ (side r).2 ∧ (side r).2 ≤ 1114111)) (by decide +kernel) hb
    exact of_decide_eq_true this
  · rw [side_not hb]; decide
theorem mir_ok (r : Int) : 0 ≤ (mir r).1 ∧ (mir r).1 ≤ 1114111 := by
  by_cases hb : r ∈ br ++ ot
  · have := of_all (p := fun r => decide (0 ≤ (mir r).1 ∧ (mir r).1 ≤ 1114111)) (by decide +kernel) hb
    exact of_decide_eq_true this
  · simp only [List.mem_append, not_or] at hb
    rw [mir_not hb.1 hb.2]; decide
/-- The chapter's words on pairs, for a number that is mirrored. -/
theorem pairs_yes {r : Int} (h : (mir r).2 = true) : cls r = 14 ∧ cls (mir r).1 = 14 ∧ ¬ (mir r).1 = r ∧
    ((side r).1 = 0 → (side r).2 = 0) ∧
    (¬ (side r).1 = 0 → ((side r).1 = 1 ∨ (side r).1 = 2) ∧ (side (side r).2).1 = 3 - (side r).1 ∧ (side (side r).2).2 = r ∧ (side r).2 = (mir r).1 ∧ (side (canon r)).1 = (side r).1 ∧ canon (side (canon r)).2 = canon (side r).2) := by
  by_cases hb : r ∈ br ++ ot
  · have := of_all (p := fun r => decide (cls r = 14 ∧ cls (mir r).1 = 14 ∧ ¬ (mir r).1 = r ∧ ((side r).1 = 0 → (side r).2 = 0) ∧
      (¬ (side r).1 = 0 → ((side r).1 = 1 ∨ (side r).1 = 2) ∧ (side (side r).2).1 = 3 - (side r).1 ∧ (side (side r).2).2 = r ∧ (side r).2 = (mir r).1 ∧ (side (canon r)).1 = (side r).1 ∧ canon (side (canon r)).2 = canon (side r).2))) (by decide +kernel) hb
    exact of_decide_eq_true this
  · simp only [List.mem_append, not_or] at hb
    rw [mir_not hb.1 hb.2] at h
    cases h
theorem pairs_no {r : Int} (h : (mir r).2 = false) : (mir r).1 = 0 ∧ (side r).1 = 0 ∧ (side r).2 = 0 := by
  by_cases hb : r ∈ br ++ ot
  · have := of_all (p := fun r => (mir r).2) (by decide +kernel) hb
    simp only [h] at this
    cases this
  · simp only [List.mem_append, not_or] at hb
    rw [mir_not hb.1 hb.2, side_not hb.1]
    exact ⟨rfl, rfl, rfl⟩
theorem twice {r : Int} (h : (mir r).2 = true) : mir (mir r).1 = (r, true) := by
  by_cases hb : r ∈ br ++ ot
  · have := of_all (p := fun r => mir (mir r).1 == (r, true)) (by decide +kernel) hb
    exact eq_of_beq this
  · simp only [List.mem_append, not_or] at hb
    rw [mir_not hb.1 hb.2] at h
    cases h
theorem canon_twice (r : Int) : canon (canon r) = canon r ∧ cls (canon r) = cls r := by
  unfold canon
  by_cases h1 : r = 9001
  · subst h1; decide +kernel
  · by_cases h2 : r = 9002
    · subst h2; decide +kernel
    · rw [if_neg h1, if_neg h2, if_neg h1, if_neg h2]; exact ⟨rfl, rfl⟩
theorem works_at : side 40 = (1, 41) ∧ mir 60 = (62, true) ∧ cls 97 = 1 ∧ cls 1488 = 2 ∧ cls 1633 = 7 ∧ cls 8295 = 21 ∧ cls 55296 = 0 ∧ canon 9001 = 12296 := by decide +kernel
theorem canon_ok {r : Int} (h : -2147483648 ≤ r ∧ r ≤ 2147483647) : -2147483648 ≤ canon r ∧ canon r ≤ 2147483647 := by
  unfold canon
  by_cases h1 : r = 9001
  · rw [if_pos h1]; omega
  · by_cases h2 : r = 9002
    · rw [if_neg h1, if_pos h2]; omega
    · rw [if_neg h1, if_neg h2]; exact h
end Ucd
end Go.Proofs.YtfadjgaledddjaaGreatDoor

/- The contract of ucd.Ranges: a new slice of all the rows. -/
namespace Go.Proofs.YtfadjgaledddjaaGreatDoor
open Go.RowKit
set_option linter.unusedVariables false
set_option maxHeartbeats 1000000
set_option maxRecDepth 100000
/-- Some cells of a row, replaced. -/
def segset : Array Value → Nat → List Value → Array Value
  | cur, _, [] => cur
  | cur, k, v :: vs => segset (cur.setIfInBounds k v) (k + 1) vs
theorem segset_size : ∀ (vs : List Value) (cur : Array Value) (k : Nat), (segset cur k vs).size = cur.size
  | [], _, _ => rfl
  | v :: vs, cur, k => by rw [segset, segset_size vs]; simp
theorem segset_low : ∀ (vs : List Value) (cur : Array Value) (k j : Nat), j < k → (segset cur k vs)[j]? = cur[j]?
  | [], _, _, _, _ => rfl
  | v :: vs, cur, k, j, h => by rw [segset, segset_low vs _ _ _ (by omega), Array.getElem?_setIfInBounds, if_neg (by omega)]
theorem segset_high : ∀ (vs : List Value) (cur : Array Value) (k j : Nat), k + vs.length ≤ j → (segset cur k vs)[j]? = cur[j]?
  | [], _, _, _, _ => rfl
  | v :: vs, cur, k, j, h => by
    simp only [List.length_cons] at h
    rw [segset, segset_high vs _ _ _ (by omega), Array.getElem?_setIfInBounds, if_neg (by omega)]
theorem segset_in : ∀ (vs : List Value) (cur : Array Value) (k j : Nat), j < vs.length → k + vs.length ≤ cur.size → (segset cur k vs)[k + j]? = vs[j]?
  | [], _, _, _, h, _ => by simp at h
  | v :: vs, cur, k, 0, _, hs => by
    simp only [List.length_cons] at hs
    rw [segset, segset_low vs _ _ _ (by omega), Nat.add_zero, Array.getElem?_setIfInBounds, if_pos rfl, if_pos (by omega)]
    rfl
  | v :: vs, cur, k, j + 1, h, hs => by
    simp only [List.length_cons] at h hs
    rw [segset, show k + (j + 1) = k + 1 + j from by omega, segset_in vs _ _ _ (by omega) (by simp; omega)]
    rfl
theorem setRow_self {w : World} {g : Nat} {cur : Array Value} {t : TypeId} {fr : Nat × Nat} (hg : w.heap[g]? = some (.cells cur t fr)) : w.setRow g cur = w := by
  have hlt : g < w.heap.size := (Array.getElem?_eq_some_iff.1 hg).1
  have hv : w.heap[g] = .cells cur t fr := (Array.getElem?_eq_some_iff.1 hg).2
  unfold World.setRow
  cases w with
  | mk heap tape drawn os output =>
    congr 1
    apply Array.ext
    · simp
    · intro k h1 h2
      simp only [Array.getElem_modify]
      split
      · rename_i hk; subst hk; simp at hv; simp [hv]
      · rfl
theorem run_storeCells_seg {P : Program} (g off : Nat) (t : TypeId) : ∀ (vs : List Value) (i : Nat) (cur : Array Value) (w : World), w.heap[g]? = some (.cells cur t (0, 0)) → off + i + vs.length ≤ cur.size → (∀ v ∈ vs, v.oneCell' = true) →
    (storeCells ⟨g, off, none⟩ vs i).run P w = .ok () (w.setRow g (segset cur (off + i) vs))
  | [], i, cur, w, hg, hl, _ => by
    simp only [storeCells, segset, setRow_self hg]
    rfl
  | v :: rest, i, cur, w, hg, hl, h1 => by
    have hi : off + i < cur.size := by simp at hl; omega
    have hadd : (⟨g, off, none⟩ : Addr).add i = ⟨g, off + i, none⟩ := by unfold Addr.add; split <;> simp_all
    have hcell : w.cell? ⟨g, off + i, none⟩ = some cur[off + i] := by simp [World.cell?, hg, hi]
    have hfro : w.frozen? ⟨g, off + i, none⟩ = false := by simp [World.frozen?, hg]
    have hst : (store ((⟨g, off, none⟩ : Addr).add i) v).run P w = .ok () (w.setRow g (cur.setIfInBounds (off + i) v)) := by
      rw [hadd, run_store P w _ v _ (h1 v (by simp)), hcell]
      simp [hfro, setCell_eq_setRow w g (off + i) cur t (0, 0) v hg]
    have ih := run_storeCells_seg (P := P) g off t rest (i + 1) (cur.setIfInBounds (off + i) v) (w.setRow g (cur.setIfInBounds (off + i) v)) (setRow_heap w g cur _ t _ hg) (by simp at hl ⊢; omega) (fun x hx => h1 x (by simp [hx]))
    simp only [storeCells, Sem.run_bind, hst, Result.andThen_ok, ih, setRow_setRow, segset]
    rfl
/-- A value of several cells goes into a row, at a place. -/
theorem wpList_store_seg {P : Program} {ops : Array Oper} {rest : List Oper} {o : Oper} {a : Act} {w : World} {Q : Exit → Act → World → Prop} (hgd : o.guard = none) (ty : TypeId) (x y : Operand) (ho : o.op = .store ty x y)
    (hd : o.dst = none) (g off : Nat) (cells : Array Value) (hx : a.eval x = .pointer (some ⟨g, off, none⟩)) (hy : a.eval y = .agg cells)
    (t : TypeId) (cur : Array Value) (hg : w.heap[g]? = some (.cells cur t (0, 0))) (hi : (P.info? ty).map (·.size) = some cells.size)
    (hold : off + cells.size ≤ cur.size) (h1 : cells.all (·.oneCell') = true)
    (h : wpList P ops Q rest a (w.setRow g (segset cur off cells.toList))) : wpList P ops Q (o :: rest) a w := by
  refine wpList_plain hgd fun K hK => ?_
  have hr := run_storeCells_seg (P := P) g off t cells.toList 0 cur w hg (by simpa using hold) (fun v hv => (Array.all_eq_true_iff_forall_mem.1 h1) v (by simpa using hv))
  have hrun : (storeVar ty ⟨g, off, none⟩ (.agg cells)).run P w = .ok () (w.setRow g (segset cur off cells.toList)) := by
    cases hq : P.info? ty with
    | none => simp [hq] at hi
    | some i =>
      have hs : cells.size = i.size := by simp [hq] at hi; omega
      simpa [storeVar, sizeOf, typeInfo, hq, Value.cells, hs] using hr
  unfold Oper.wp execOp
  simp only [ho, hx, hy, Instr.storeAt, Instr.sureAddr, Sem.run_bind, Sem.run_pure, Result.andThen_ok, hrun]
  exact hK _ _ (by rw [hd]; exact h)
theorem below_setRow {B : Nat} {w w' : World} (h : Below B w w') {g : Nat} (hg : B ≤ g) (cs : Array Value) : Below B w (w'.setRow g cs) :=
  ⟨h.os, h.tape, h.output, by rw [setRow_size]; exact h.size, fun i hi => by rw [setRow_other _ _ _ _ (by omega)]; exact h.block i hi⟩
theorem alloc_old (w : World) (o : Obj) {b : Nat} (h : b < w.heap.size) : (w.alloc o).heap[b]? = w.heap[b]? := by
  show (w.heap.push o)[b]? = w.heap[b]?
  rw [Array.getElem?_push, if_neg (Nat.ne_of_lt h)]
end Go.Proofs.YtfadjgaledddjaaGreatDoor

/- The two listed tables; the contracts of sides and Bracket. -/
namespace Go.Proofs.YtfadjgaledddjaaGreatDoor
open Go.RowKit Go.Maps
set_option linter.unusedVariables false
set_option maxHeartbeats 1000000
set_option maxRecDepth 100000
def pairCells (l : List (Int × Int)) : Array Value := ((Ucd.flat2 l).map (Value.int .i32)).toArray
/-- The table lies where start-up laid it. -/
def Marks (w : World) : Prop := True ∧ (∀ i, i < 42 → w.cell? ⟨0, i, none⟩ = (pairCells Ucd.brackets)[i]?)
theorem Marks.lt {w : World} (h : Marks w) : 0 < w.heap.size := World.block_lt_of_cell? w (u := .int .i32 40) (a := ⟨0, 0, none⟩) (by rw [h.2 0 (by omega)]; rfl)
theorem Marks.below {w w' : World} (h : Marks w) (hb : Below w.heap.size w w') : Marks w' :=
  ⟨trivial, fun i hi => (hb.cell (p := ⟨0, i, none⟩) h.lt).trans (h.2 i hi)⟩
/-- A whole array out of a block, by its cells. -/
theorem wpList_load_cells {P : Program} {ops : Array Oper} {rest : List Oper} {o : Oper} {a : Act} {w : World} {Q : Exit → Act → World → Prop} (hgd : o.guard = none) (ty : TypeId) (x : Operand) (ho : o.op = .load ty x)
    (g : Nat) (hx : a.eval x = .pointer (some ⟨g, 0, none⟩)) (cs : Array Value) (d : TypeDesc) (hc : ∀ i, i < cs.size → w.cell? ⟨g, i, none⟩ = cs[i]?)
    (hu : P.underlying ty = some d) (hd : (match d with | .struct _ | .array _ _ => true | _ => false) = true) (hi : (P.info? ty).map (·.size) = some cs.size)
    (h : wpList P ops Q rest (a.put o.dst (.agg cs)) w) : wpList P ops Q (o :: rest) a w := by
  refine wpList_plain hgd fun K hK => ?_
  have hl := run_loadCells_list (P := P) w ⟨g, 0, none⟩ cs.toList (fun j v hv => by
    have hadd : (⟨g, 0, none⟩ : Addr).add j = ⟨g, j, none⟩ := by unfold Addr.add; split <;> simp_all
    have hj : j < cs.size := by
      have := (List.getElem?_eq_some_iff.1 hv).1
      simpa using this
    rw [hadd, hc j hj]
    simpa using hv)
  have hrun : (loadVar ty ⟨g, 0, none⟩).run P w = .ok (.agg cs) w := by
    cases hq : P.info? ty with
    | none => simp [hq] at hi
    | some i =>
      have hs : i.size = cs.size := by simpa [hq] using hi
      have hagg : (isAgg ty).run P w = .ok true w := by
        unfold isAgg
        rw [Sem.run_bind, run_underlying hu w]
        cases d <;> simp_all
      simp only [Array.length_toList, Array.toArray_toList] at hl
      simp [loadVar, Sem.run_bind, hagg, sizeOf, typeInfo, hq, hs, hl]
  unfold Oper.wp execOp
  simp only [ho, hx, Instr.loadAt, Instr.sureAddr, Sem.run_bind, Sem.run_pure, Result.andThen_ok, hrun]
  exact hK _ _ h
theorem pair_at : ∀ (l : List (Int × Int)) (i : Nat), i < l.length → (Ucd.flat2 l)[i * 2]? = some (l.getD i (0, 0)).1 ∧ (Ucd.flat2 l)[i * 2 + 1]? = some (l.getD i (0, 0)).2
  | [], _, h => by simp at h
  | p :: t, 0, _ => ⟨rfl, rfl⟩
  | p :: t, i + 1, h => by
    have := pair_at t i (by simpa using h)
    have e : ∀ j, (Ucd.flat2 (p :: t))[j + 2]? = (Ucd.flat2 t)[j]? := fun j => rfl
    rw [show (i + 1) * 2 = i * 2 + 2 from by omega, show i * 2 + 2 + 1 = i * 2 + 1 + 2 from by omega, e, e, this.1, this.2]
    simp
theorem pair_size (l : List (Int × Int)) : (pairCells l).size = l.length * 2 := by
  have : ∀ l : List (Int × Int), (Ucd.flat2 l).length = l.length * 2 := by
    intro l
    induction l with
    | nil => rfl
    | cons p t ih =>
      show (Ucd.flat2 t).length + 1 + 1 = (t.length + 1) * 2
      omega
  simp [pairCells, this]
theorem extract_pair (l : List (Int × Int)) {i : Nat} (hi : i < l.length) : (pairCells l).extract (i * 2) (i * 2 + 2) = #[.int .i32 (l.getD i (0, 0)).1, .int .i32 (l.getD i (0, 0)).2] := by
  have hs := pair_size l
  obtain ⟨h0, h1⟩ := pair_at l i hi
  apply Array.ext_getElem?
  intro j
  rw [Array.getElem?_extract]
  have e : ∀ k : Nat, (pairCells l)[k]? = (Ucd.flat2 l)[k]?.map (Value.int .i32) := fun (k : Nat) => by simp [pairCells]
  match j with
  | 0 => rw [if_pos (by omega), Nat.add_zero, e, h0]; rfl
  | 1 => rw [if_pos (by omega), e, h1]; rfl
  | j + 2 => rw [if_neg (by omega)]; simp
theorem pairInfo32 : (Tryz.prog.info? 185).map (·.size) = some 2 := by kernel_rfl
theorem run_index_pair (t n : Nat) (hu : Tryz.prog.underlying t = some (.array n 185)) (l : List (Int × Int)) (hl : l.length = n) (w : World) {i : Nat} (hi : i < n) :
    (Instr.index t (.agg (pairCells l)) (.int .i64 (i : Int))).run Tryz.prog w = .ok (.agg #[.int .i32 (l.getD i (0, 0)).1, .int .i32 (l.getD i (0, 0)).2]) w := by
  have h1 : (0 : Int) ≤ (i : Int) ∧ (i : Int) < (n : Int) := by omega
  have hs : (sizeOf 185).run Tryz.prog w = .ok 2 w := by
    have := pairInfo32
    cases hq : Tryz.prog.info? 185 with
    | none => rw [hq] at this; cases this
    | some ie => rw [hq] at this; simp at this; simp [sizeOf, typeInfo, hq, this]
  have hag : (isAgg 185).run Tryz.prog w = .ok true w := by
    unfold isAgg
    rw [Sem.run_bind, run_underlying Tryz.underlying185 w]
    rfl
  simp only [Instr.index, asIntOf, Sem.run_bind, Sem.run_pure, Result.andThen_ok, run_underlying hu]
  rw [if_pos h1]
  simp only [Sem.run_bind, hs, Result.andThen_ok, Int.toNat_natCast, part, hag, if_true, Sem.run_pure, extract_pair l (by omega : i < l.length)]
/-- What stands in the map. -/
def sd (p : Int × Int) : Value := .agg #[.int .i64 p.1, .int .i32 p.2]
def asIs (v : Value) : Option (DataW Value × List MemPlace) := some (.held v, [])
def putPair (D : DataW Value) (p : Int × Int) : DataW Value := (D.put (.int .i32 p.1) (.held (sd (1, p.2)))).put (.int .i32 p.2) (.held (sd (2, p.1)))
def mapOf (l : List (Int × Int)) : DataW Value := l.foldl putPair (.map [])
theorem key_lit (a : Int) : WideAt.IsKeyLit (.int .i32 a) := trivial
theorem putPair_at (D : DataW Value) (hD : IsMap D) (p : Int × Int) (r : Int) (z : DataW Value) :
    (putPair D p).atKey (.int .i32 r) z = if r = p.2 then .held (sd (2, p.1)) else if r = p.1 then .held (sd (1, p.2)) else D.atKey (.int .i32 r) z := by
  unfold putPair
  by_cases h2 : r = p.2
  · subst h2
    rw [if_pos rfl, atKey_put_same (hD.put _ _) (key_lit _)]
  · rw [if_neg h2, atKey_put_other (by simpa using h2)]
    by_cases h1 : r = p.1
    · subst h1
      rw [if_pos rfl, atKey_put_same hD (key_lit _)]
    · rw [if_neg h1, atKey_put_other (by simpa using h1)]
theorem foldl_at (r : Int) (z : DataW Value) : ∀ (l : List (Int × Int)) (D : DataW Value) (acc : Int × Int), IsMap D → D.atKey (.int .i32 r) z = .held (sd acc) → (l.foldl putPair D).atKey (.int .i32 r) z = .held (sd (Ucd.look l r acc))
  | [], _, _, _, h => h
  | p :: t, D, acc, hD, h => by
    refine foldl_at r z t (putPair D p) _ ((hD.put _ _).put _ _) ?_
    rw [putPair_at D hD p r z, h]
    show _ = DataW.held (sd (if r = p.2 then (2, p.1) else if r = p.1 then (1, p.2) else acc))
    by_cases h2 : r = p.2
    · rw [if_pos h2, if_pos h2]
    · rw [if_neg h2, if_neg h2]
      by_cases h1 : r = p.1
      · rw [if_pos h1, if_pos h1]
      · rw [if_neg h1, if_neg h1]
theorem mapOf_at (r : Int) : (mapOf Ucd.brackets).atKey (.int .i32 r) (.held (sd (0, 0))) = .held (sd (Ucd.side r)) := foldl_at r _ Ucd.brackets _ (0, 0) ⟨_, rfl⟩ rfl
theorem brInfo : (Tryz.prog.info? 186).map (·.size) = some (pairCells Ucd.brackets).size := by kernel_rfl
theorem brSize : (pairCells Ucd.brackets).size = 42 := by kernel_rfl
theorem build_side (k p : Int) (w : World) : (Instr.build 172 #[(0, .int .i64 k), (1, .int .i32 p)]).run Tryz.prog w = .ok (sd (k, p)) w := run_build w 172 _ _ (by kernel_rfl)
theorem law_key : Keyed Tryz.prog 21 := int_keyed Tryz.underlying21
theorem two_info {P : Program} {t : TypeId} (h : (P.info? t).map (·.size) = some 2) (x y : Value) : (P.info? t).map (·.size) = some (#[x, y] : Array Value).size := h
theorem two_one (x y : Int) : (#[.int .i32 x, .int .i32 y] : Array Value).all (·.oneCell') = true := by simp [Value.oneCell']
theorem cells2 (w : World) (x y : Value) (t : TypeId) : (w.alloc (.cells #[x, y] t)).cell? ⟨w.heap.size, 0, none⟩ = some x ∧ (w.alloc (.cells #[x, y] t)).cell? ⟨w.heap.size, 1, none⟩ = some y := by
  unfold World.cell?
  rw [heap_alloc_last]
  exact ⟨rfl, rfl⟩
theorem br_ok : ∀ p ∈ Ucd.brackets, (0 ≤ p.1 ∧ p.1 ≤ 1114111) ∧ (0 ≤ p.2 ∧ p.2 ≤ 1114111) := by decide +kernel
theorem run_make_sides (w : World) : (Instr.makeMap 173 (some (.int .i64 42))).run Tryz.prog w = .ok (.map (some w.heap.size)) (w.alloc (.map #[] 0)) := by
  simp [Instr.makeMap, run_underlying Tryz.underlying173, asInt, asIntOf]
theorem cell_of_block {w : World} {b i : Nat} {cs : Array Value} {t : TypeId} {fr : Nat × Nat} {v : Value} (h : w.heap[b]? = some (.cells cs t fr)) (hv : cs[i]? = some v) : w.cell? ⟨b, i, none⟩ = some v := by
  unfold World.cell?
  rw [h]
  exact hv
theorem mapOf_snoc {i : Nat} (h : i < 21) : mapOf (Ucd.brackets.take (i + 1)) = putPair (mapOf (Ucd.brackets.take i)) (Ucd.brackets.getD i (0, 0)) := by
  have hl : i < Ucd.brackets.length := h
  unfold mapOf
  rw [List.take_succ_eq_append_getElem hl, List.foldl_append]
  simp [List.getD, List.getElem?_eq_getElem hl]
theorem sides_any (w : World) (hm : Marks w) : Calls Tryz.prog 160 #[] w fun e w' => ∃ b n, e = .returned (.map (some b)) ∧ Below w.heap.size w w' ∧ w'.ownsMap Tryz.prog 21 asIs b n (mapOf Ucd.brackets) := by
  have hmm := run_make_sides
  have hlt := hm.lt
  have hbs := build_side
  have HM := hide hm
  clear hm
  have HC : Hid (∀ i, i < (pairCells Ucd.brackets).size → (w.alloc (.map #[] 0)).cell? ⟨0, i, none⟩ = (pairCells Ucd.brackets)[i]?) := hide fun i hi => by
    rw [World.cell?_alloc_past _ _ _ (by exact hlt)]
    exact HM.out.2 i (by rw [brSize] at hi; exact hi)
  have H0 := hide (World.ownsMap_made w Tryz.prog 21 asIs)
  have HB0 : Hid (Below w.heap.size w (w.alloc (.map #[] 0))) := hide ((Below.refl _ _).alloc (Nat.le_refl _) _)
  go_enter Tryz.func160, Tryz.ntmps160
  go_wp2_with (first
    | (refine wpList_load_cells rfl 186 _ rfl 0 rfl (pairCells Ucd.brackets) _ HC.out Tryz.underlying186 rfl brInfo ?_))
  go_loopw [6] (fun s6 wr => ∃ i : Nat, s6 = .int .i64 i ∧ i ≤ 21 ∧ Hid (Below w.heap.size w wr) ∧ Hid (wr.ownsMap Tryz.prog 21 asIs w.heap.size (2 * i) (mapOf (Ucd.brackets.take i)))) (fun s6 _ => (21 - intOf s6).toNat)
  case atStart => exact ⟨0, rfl, by omega, HB0, H0⟩
  case round =>
    obtain ⟨i, rfl, hi, HB, HO⟩ := hrel
    have hltw : w.heap.size < wr.heap.size := HO.out.lt
    by_cases hi2 : i < 21
    · have hix := run_index_pair 186 21 Tryz.underlying186 Ucd.brackets rfl wr hi2
      have hok := br_ok (Ucd.brackets.getD i (0, 0)) (by
        have hl : i < Ucd.brackets.length := hi2
        rw [show Ucd.brackets.getD i (0, 0) = Ucd.brackets[i] from by simp [List.getD, List.getElem?_eq_getElem hl]]
        exact List.getElem_mem _)
      have HS := hide (mapOf_snoc hi2)
      have hwa := WalkArith.wf_i32 (n := (Ucd.brackets.getD i (0, 0)).1) (by omega)
      have hwb := WalkArith.wf_i32 (n := (Ucd.brackets.getD i (0, 0)).2) (by omega)
      have HKA := hide hwa
      have HKB := hide hwb
      clear hok hmm hwa hwb
      rw [show putPair (mapOf (Ucd.brackets.take i)) (Ucd.brackets.getD i (0, 0)) = ((mapOf (Ucd.brackets.take i)).put (.int .i32 (Ucd.brackets.getD i (0, 0)).1) (.held (sd (1, (Ucd.brackets.getD i (0, 0)).2)))).put (.int .i32 (Ucd.brackets.getD i (0, 0)).2) (.held (sd (2, (Ucd.brackets.getD i (0, 0)).1))) from rfl] at HS
      generalize (Ucd.brackets.getD i (0, 0)).1 = pa at *
      generalize (Ucd.brackets.getD i (0, 0)).2 = pb at *
      obtain ⟨g0, g1⟩ := cells2 wr (.int .i32 pa) (.int .i32 pb) 185
      have HOA := hide (HO.out.alloc (.cells #[.int .i32 pa, .int .i32 pb] 185))
      go_wp2_with (first
        | (refine wpList_store_new wr rfl 185 _ _ rfl rfl #[.int .i32 0, .int .i32 0] #[.int .i32 pa, .int .i32 pb] rfl rfl (two_info pairInfo32 _ _) rfl (two_one _ _) ?_)
        | (at_mapUpdate; refine wpList_mapUpdate_own _ rfl _ _ _ 173 rfl 21 172 law_key Tryz.underlying173 asIs w.heap.size (2 * i + 1) _ rfl hown1 (by unfold maxLen; omega) _ _ (.int .i32 pb) rfl rfl (keyOf_int_mk Tryz.underlying21 HKB.out) _ [] rfl ?_; intro w2 hown2 hgrow2)
        | (at_mapUpdate; refine wpList_mapUpdate_own _ rfl _ _ _ 173 rfl 21 172 law_key Tryz.underlying173 asIs w.heap.size (2 * i) _ rfl HOA.out (by unfold maxLen; omega) _ _ (.int .i32 pa) rfl rfl (keyOf_int_mk Tryz.underlying21 HKA.out) _ [] rfl ?_; intro w1 hown1 hgrow1
           have hblk : w1.heap[wr.heap.size]? = some (.cells #[.int .i32 pa, .int .i32 pb] 185 (0, 0)) := (hgrow1.block _ (by simp) (by simp; omega)).trans (heap_alloc_last wr _)
           have f0 : w1.cell? ⟨wr.heap.size, 0, none⟩ = some (.int .i32 pa) := cell_of_block hblk rfl
           have f1 : w1.cell? ⟨wr.heap.size, 1, none⟩ = some (.int .i32 pb) := cell_of_block hblk rfl))
      go_roundw
      case rel =>
        have hba := HB.out.alloc HB.out.size (.cells #[.int .i32 pa, .int .i32 pb] 185)
        have hb1 := hba.grown hgrow1 (by simp; have := HB.out.size; omega) (fun k hk => by cases hk; exact Nat.le_refl _)
        have hb2 := hb1.grown hgrow2 hb1.size (fun k hk => by cases hk; exact Nat.le_refl _)
        exact ⟨i + 1, by first | rfl | (congr 1), by omega, hide hb2, hide (by rw [HS.out]; exact hown2)⟩
      case measure => simp [intOf]; omega
    · obtain rfl : i = 21 := by omega
      go_wp2
      go_ret
      exact ⟨w.heap.size, _, rfl, HB.out, HO.out⟩
theorem sideInfo : (Tryz.prog.info? 172).map (·.size) = some 2 := by kernel_rfl
theorem zeroSide (w : World) : (zeroValue 172).run Tryz.prog w = .ok (sd (0, 0)) w := by kernel_rfl
theorem side_one (x y : Int) : (#[.int .i64 x, .int .i32 y] : Array Value).all (·.oneCell') = true := by simp [Value.oneCell']
theorem lookup_side {w : World} {b n : Nat} (h : w.ownsMap Tryz.prog 21 asIs b n (mapOf Ucd.brackets)) {r : Int} (hr : (Lit.int .i32 r).wf = true) :
    (Instr.lookup 173 (.map (some b)) (.int .i32 r) false).run Tryz.prog w = .ok (.agg #[.int .i64 (Ucd.side r).1, .int .i32 (Ucd.side r).2]) w := by
  obtain ⟨v, ps, hrun, hv⟩ := h.lookup law_key Tryz.underlying173 (zeroSide w) (zd := .held (sd (0, 0))) (zp := []) rfl (keyOf_int_mk Tryz.underlying21 hr)
  rw [mapOf_at] at hv
  simp only [asIs, Option.some.injEq, Prod.mk.injEq, DataW.held.injEq] at hv
  rw [hrun, hv.1]
  rfl
theorem bracket_any (r : Int) (w : World) (hr : (Lit.int .i32 r).wf = true) (hm : Marks w) :
    Calls Tryz.prog 155 #[.int .i32 r] w fun e w' => e = .returned (.tuple #[.int .i64 (Ucd.side r).1, .int .i32 (Ucd.side r).2]) ∧ Below w.heap.size w w' := by
  have HR := hide hr
  have HM := hide hm
  clear hr hm
  by_cases hc : Ucd.cls r = 14
  · generalize hs : Ucd.side r = s
    have HS := hide hs
    clear hs
    obtain ⟨k, p⟩ := s
    show Calls Tryz.prog 155 #[.int .i32 r] w fun e w' => e = .returned (.tuple #[.int .i64 k, .int .i32 p]) ∧ Below w.heap.size w w'
    go_enter Tryz.func155, Tryz.ntmps155
    go_wp2_with fail
    refine (class_any r w HR.out).mono ?_
    rintro e w1 ⟨rfl, hb1⟩
    rw [hc]
    have HM1 := hide (HM.out.below hb1)
    go_wp2_with fail
    refine (sides_any w1 HM1.out).mono ?_
    rintro e w2 ⟨b, n, rfl, hb2, hown⟩
    have hlk := lookup_side hown HR.out
    rw [HS.out] at hlk
    have HB := hide (hb1.trans (hb2.mono hb1.size))
    obtain ⟨g0, g1⟩ := cells2 w2 (.int .i64 k) (.int .i32 p) 172
    clear hown hb1 hb2
    go_wp2_with (first
      | (refine wpList_store_new w2 rfl 172 _ _ rfl rfl #[.int .i64 0, .int .i32 0] #[.int .i64 k, .int .i32 p] rfl rfl (two_info sideInfo _ _) rfl (side_one _ _) ?_))
    go_region
    all_goals (try go_wp2)
    all_goals go_ret2
    all_goals exact ⟨rfl, (HB.out.alloc HB.out.size _).drew⟩
  · have hs := Ucd.side_class hc
    rw [hs]
    have hcI : ¬ Ucd.cls r = 14 := hc
    clear hs
    go_enter Tryz.func155, Tryz.ntmps155
    go_wp2_with fail
    refine (class_any r w HR.out).mono ?_
    rintro e w1 ⟨rfl, hb1⟩
    generalize Ucd.cls r = c at *
    go_wp2
    go_ret2
    exact ⟨rfl, hb1⟩
end Go.Proofs.YtfadjgaledddjaaGreatDoor

/- The contracts of Canon, Mirror and works. -/
namespace Go.Proofs.YtfadjgaledddjaaGreatDoor
open Go.RowKit Go.Maps
set_option linter.unusedVariables false
set_option maxHeartbeats 1000000
set_option maxRecDepth 100000
theorem canon_any (r : Int) (w : World) : Calls Tryz.prog 156 #[.int .i32 r] w fun e w' => e = .returned (.int .i32 (Ucd.canon r)) ∧ w = w' := by
  by_cases h1 : r = 9001
  · subst h1
    go_enter Tryz.func156, Tryz.ntmps156
    go_wp2
    go_ret
    exact ⟨rfl, rfl⟩
  · by_cases h2 : r = 9002
    · subst h2
      go_enter Tryz.func156, Tryz.ntmps156
      go_wp2
      go_ret
      exact ⟨rfl, rfl⟩
    · have HC : Hid (Ucd.canon r = r) := hide (by unfold Ucd.canon; rw [if_neg h1, if_neg h2])
      go_enter Tryz.func156, Tryz.ntmps156
      go_wp2
      go_ret
      exact ⟨ret_int HC.out.symm, rfl⟩
end Go.Proofs.YtfadjgaledddjaaGreatDoor

/- Slices of pairs of places. -/
namespace Go.Proofs.YtfadjgaledddjaaGreatDoor
open Go.RowKit
set_option linter.unusedVariables false
/-- The cells of pairs. -/
def flat2 (ps : List (Nat × Nat)) : List Value := ps.flatMap fun x => [.int .i64 (x.1 : Int), .int .i64 (x.2 : Int)]
theorem flat2_len (ps : List (Nat × Nat)) : (flat2 ps).length = ps.length * 2 := by
  induction ps with
  | nil => rfl
  | cons x ps ih => rw [flat2, List.flatMap_cons, List.length_append, ← flat2, ih]; simp; omega
theorem flat2_snoc (ps : List (Nat × Nat)) (x : Nat × Nat) : flat2 (ps ++ [x]) = flat2 ps ++ [.int .i64 (x.1 : Int), .int .i64 (x.2 : Int)] := by
  rw [flat2, List.flatMap_append]; simp [flat2]
theorem flat2_at (ps : List (Nat × Nat)) (k : Nat) (h : k < ps.length) : (flat2 ps)[k * 2]? = some (.int .i64 ((ps.getD k (0, 0)).1 : Int)) ∧ (flat2 ps)[k * 2 + 1]? = some (.int .i64 ((ps.getD k (0, 0)).2 : Int)) := by
  induction ps generalizing k with
  | nil => simp at h
  | cons x ps ih =>
    rw [flat2, List.flatMap_cons, ← flat2]
    cases k with
    | zero => simp
    | succ k =>
      have := ih k (by simpa using h)
      rw [show (k + 1) * 2 = k * 2 + 2 from by omega]
      rw [List.getElem?_append_right (by simp), List.getElem?_append_right (by simp)]
      simpa using this
/-- A slice that holds these pairs. -/
structure Pairs (w : World) (ao : Option Addr) (n cap : Nat) (ps : List (Nat × Nat)) : Prop where
  len : ps.length = n
  le : n ≤ cap
  max : cap ≤ maxLen
  cells : 0 < n → ∃ b, ao = some ⟨b, 0, none⟩ ∧ b < w.heap.size ∧ ∀ k, k < n → w.cell? ⟨b, k * 2, none⟩ = some (.int .i64 ((ps.getD k (0, 0)).1 : Int)) ∧ w.cell? ⟨b, k * 2 + 1, none⟩ = some (.int .i64 ((ps.getD k (0, 0)).2 : Int))
  nil : ao = none → cap = 0
theorem Pairs.below {w w' : World} {ao : Option Addr} {n cap : Nat} {ps : List (Nat × Nat)} (h : Pairs w ao n cap ps) (hb : Below w.heap.size w w') : Pairs w' ao n cap ps :=
  ⟨h.len, h.le, h.max, fun h0 => by
    obtain ⟨b, e1, e2, e3⟩ := h.cells h0
    exact ⟨b, e1, Nat.lt_of_lt_of_le e2 hb.size, fun k hk => ⟨(hb.cell (by exact e2)).trans (e3 k hk).1, (hb.cell (by exact e2)).trans (e3 k hk).2⟩⟩, h.nil⟩
theorem pairs_nil (w : World) : Pairs w none 0 0 [] := ⟨rfl, Nat.le_refl _, Nat.zero_le _, fun h => by omega, fun _ => rfl⟩
theorem pairs_of_owns {w : World} {base e n : Nat} {v : Value} {ps : List (Nat × Nat)} (h : w.ownsRow base e 2 v n (flat2 ps)) : ∃ ao cap, v = .slice ao n cap ∧ Pairs w ao n cap ps := by
  have hl : ps.length = n := by have := h.1; rw [flat2_len] at this; omega
  rcases h.2 with ⟨rfl, rfl⟩ | ⟨g, cap, cur, rfl, hb, hg, hn, hc, hs, ht⟩
  · exact ⟨none, 0, rfl, hl, Nat.le_refl _, Nat.zero_le _, fun h0 => by omega, fun _ => rfl⟩
  · refine ⟨_, cap, rfl, hl, hn, hc, fun h0 => ⟨g, rfl, (Array.getElem?_eq_some_iff.1 hg).1, fun k hk => ?_⟩, fun h => by cases h⟩
    have := flat2_at ps k (by omega)
    exact ⟨(h.cellAt (k * 2) (by omega)).trans this.1, (h.cellAt (k * 2 + 1) (by omega)).trans this.2⟩
theorem pairInfo : (Tryz.prog.info? 127).map (fun i => (i.zero, i.size, i.bytes)) = some (some (.agg #[.int .i64 0, .int .i64 0]), 2, 16) := by kernel_rfl
theorem build_pair1 (x y : Int) (w : World) : (Instr.buildSlice 123 1 #[(0, .agg #[.int .i64 x, .int .i64 y])]).run Tryz.prog w = .ok (.slice (some ⟨w.heap.size, 0, none⟩) 1 1) (w.alloc (.cells #[.int .i64 x, .int .i64 y] 127)) := by
  have hq := pairInfo
  cases hi : Tryz.prog.info? 127 with
  | none => rw [hi] at hq; cases hq
  | some ie =>
    rw [hi] at hq
    simp only [Option.map_some, Option.some.injEq, Prod.mk.injEq] at hq
    refine run_buildSlice w 123 127 1 _ _ ie _ Tryz.underlying123 hi hq.1 (by rw [hq.2.1]; decide) (by rw [hq.2.1]; decide) ?_
    rw [hq.2.1]
    kernel_rfl
/-- The cells of a block that was made last. -/
theorem two_new (w : World) (a b : Value) (t : TypeId) : ∀ (j : Nat) (u : Value), [a, b][j]? = some u → (w.alloc (.cells #[a, b] t)).cell? ((⟨w.heap.size, 0, none⟩ : Addr).add j) = some u := by
  intro j u hj
  have hadd : (⟨w.heap.size, 0, none⟩ : Addr).add j = ⟨w.heap.size, j, none⟩ := by unfold Addr.add; split <;> simp_all
  rw [hadd, World.cell?_alloc_mark]
  rw [← hj]
  simp
end Go.Proofs.YtfadjgaledddjaaGreatDoor
