/- Glyphs; what is shown: plain mathematics. -/
import Derived.Test.YtchpdokjalbpnaaDoorOo
import Derived.Test.YtchpdokjalbpnaaDoorMk
namespace Go.Proofs.YtchpdokjalbpnaaDoor
set_option linter.unusedVariables false
namespace Mi
/-- A number as it is shown at a level. -/
def gl (r lv : Int) : Int := if (Ucd.mir r).2 = true ∧ 0 ≤ lv ∧ lv % 2 = 1 then (Ucd.mir r).1 else r
theorem gl_even {r lv : Int} (h : ¬ (0 ≤ lv ∧ lv % 2 = 1)) : gl r lv = r := by unfold gl; rw [if_neg (fun q => h q.2)]
theorem gl_yes {r lv : Int} (h : 0 ≤ lv ∧ lv % 2 = 1) (hm : (Ucd.mir r).2 = true) : gl r lv = (Ucd.mir r).1 := by unfold gl; rw [if_pos ⟨hm, h⟩]
theorem gl_no {r lv : Int} (hm : (Ucd.mir r).2 = false) : gl r lv = r := by unfold gl; rw [if_neg (fun q => by rw [hm] at q; cases q.1)]
/-- All odd levels are alike. -/
theorem gl_like {r a b : Int} (ha : 0 ≤ a ∧ a % 2 = 1) (hb : 0 ≤ b ∧ b % 2 = 1) : gl r a = gl r b := by
  cases hm : (Ucd.mir r).2 with
  | true => rw [gl_yes ha hm, gl_yes hb hm]
  | false => rw [gl_no hm, gl_no hm]
/-- Shown twice at odd levels it is the number. -/
theorem gl_twice {r a b : Int} (ha : 0 ≤ a ∧ a % 2 = 1) (hb : 0 ≤ b ∧ b % 2 = 1) : gl (gl r a) b = r := by
  cases hm : (Ucd.mir r).2 with
  | true =>
    have h := Ucd.twice hm
    rw [gl_yes ha hm, gl_yes hb (by rw [h]), h]
  | false => rw [gl_no hm, gl_no hm]
theorem gl_ok {r lv : Int} (h : -2147483648 ≤ r ∧ r ≤ 2147483647) : -2147483648 ≤ gl r lv ∧ gl r lv ≤ 2147483647 := by
  unfold gl
  split
  · have := Ucd.mir_ok r
    omega
  · exact h
/-- What is shown. -/
def SW (l lv : List Int) : List Int := (Od.OD lv).map fun i => gl (l.getD i 0) (lv.getD i 0)
theorem SW_len (l lv : List Int) : (SW l lv).length = (Od.OD lv).length := by simp [SW]
theorem SW_at {l lv : List Int} {k : Nat} (h : k < (Od.OD lv).length) : (SW l lv).getD k 0 = gl (l.getD ((Od.OD lv).getD k 0) 0) (lv.getD ((Od.OD lv).getD k 0) 0) := by simp [SW, List.getD, h]
/-- As far as k of the order's places are shown. -/
theorem SW_next {l lv : List Int} {k : Nat} (h : k < (Od.OD lv).length) : (SW l lv).take (k + 1) = (SW l lv).take k ++ [gl (l.getD ((Od.OD lv).getD k 0) 0) (lv.getD ((Od.OD lv).getD k 0) 0)] := by
  rw [take_snoc _ _ (by rw [SW_len]; exact h), SW_at h]
/-- One level alone. -/
theorem le_same {L : Int} (hL : 0 ≤ L) {n x y : Nat} (hx : x < n) (hy : y < n) : Od.le (List.replicate n L) x y = L := by
  have hat : ∀ i, i < n → (List.replicate n L).getD i 0 = L := fun i hi => by simp [List.getD, hi]
  have h1 := Od.le_le (lv := List.replicate n L) (x := x) (y := y) (z := x) (by rw [hat x hx]; exact hL) (by rw [hat y hy]; exact hL) (by rw [hat x hx]; exact hL) (by omega)
  have h2 : L ≤ Od.le (List.replicate n L) x y := Od.le_ge (by rw [hat x hx]; exact hL) (by rw [hat y hy]; exact hL) fun z hz _ => by rw [hat z (by omega)]; exact Int.le_refl _
  rw [hat x hx] at h1
  omega
theorem sn_same {L : Int} (hL : 0 ≤ L) {n z : Nat} : Od.sn (List.replicate n L) z = true ↔ z < n := by
  constructor
  · intro h
    have := (Od.sn_at h).1
    simpa using this
  · intro h
    refine Od.sn_of ?_ (by simpa using h)
    simpa [List.getD, h] using hL
theorem Fo_same {L : Int} (h0 : -1 ≤ L) (h1 : L ≤ 127) (n : Nat) : Od.Fo (List.replicate n L) := fun i hi => by
  have hi2 : i < n := by simpa using hi
  have e : (List.replicate n L).getD i 0 = L := by simp [List.getD, hi2]
  rw [e]
  exact ⟨h0, h1⟩
theorem OD_even {L : Int} (h0 : 0 ≤ L) (h1 : L ≤ 127) (he : L % 2 = 0) (n : Nat) : Od.OD (List.replicate n L) = List.range n := by
  refine Od.Vis.eq (Od.OD_vis (Fo_same (by omega) h1 n)) ⟨?_, fun z => by rw [List.mem_range, sn_same h0]⟩
  refine List.pairwise_lt_range.imp_of_mem ?_
  intro i j hi hj hij
  rw [List.mem_range] at hi hj
  unfold Od.Lf
  rw [le_same h0 hi hj, if_pos he]
  exact hij
theorem OD_odd {L : Int} (h0 : 0 ≤ L) (h1 : L ≤ 127) (ho : L % 2 = 1) (n : Nat) : Od.OD (List.replicate n L) = (List.range n).reverse := by
  refine Od.Vis.eq (Od.OD_vis (Fo_same (by omega) h1 n)) ⟨List.pairwise_reverse.2 ?_, fun z => by rw [List.mem_reverse, List.mem_range, sn_same h0]⟩
  refine List.pairwise_lt_range.imp_of_mem ?_
  intro i j hi hj hij
  rw [List.mem_range] at hi hj
  unfold Od.Lf
  rw [le_same h0 hj hi, if_neg (by omega)]
  exact hij
theorem range_at (n : Nat) {i : Nat} (h : i < n) : (List.range n).getD i 0 = i := by simp [List.getD, h]
theorem rrange_at (n : Nat) {i : Nat} (h : i < n) : (List.range n).reverse.getD i 0 = n - 1 - i := by
  simp [List.getD, h]
/-- A text of one even level is shown as it is. -/
theorem SW_even {L : Int} (h0 : 0 ≤ L) (h1 : L ≤ 127) (he : L % 2 = 0) {n : Nat} {l : List Int} (hn : l.length = n) : SW l (List.replicate n L) = l := by
  unfold SW
  rw [OD_even h0 h1 he]
  refine List.ext_getElem (by simp [hn]) fun i i1 i2 => ?_
  simp only [List.getElem_map, List.getElem_range]
  have e1 : (List.replicate n L).getD i 0 = L := by simp [List.getD, ← hn, i2]
  rw [e1, gl_even (by omega)]
  simp [List.getD, i2]
/-- One of an odd level turned about. -/
theorem SW_odd_len {L : Int} (h0 : 0 ≤ L) (h1 : L ≤ 127) (ho : L % 2 = 1) (n : Nat) (l : List Int) : (SW l (List.replicate n L)).length = n := by
  rw [SW_len, OD_odd h0 h1 ho]; simp
theorem SW_odd {L : Int} (h0 : 0 ≤ L) (h1 : L ≤ 127) (ho : L % 2 = 1) {n : Nat} {l : List Int} (hn : l.length = n) {i : Nat} (hi : i < n) : (SW l (List.replicate n L)).getD i 0 = gl (l.getD (n - 1 - i) 0) 1 := by
  have hl : (Od.OD (List.replicate n L)).length = n := by rw [OD_odd h0 h1 ho]; simp
  rw [SW_at (by rw [hl]; exact hi), OD_odd h0 h1 ho, rrange_at _ hi]
  have hi2 : n - 1 - i < n := by omega
  have e1 : (List.replicate n L).getD (n - 1 - i) 0 = L := by simp [List.getD, hi2]
  rw [e1]
  exact gl_like ⟨h0, ho⟩ (by decide)
/-- And then so again it is the text. -/
theorem SW_twice {L : Int} (h0 : 0 ≤ L) (h1 : L ≤ 127) (ho : L % 2 = 1) {n : Nat} {l : List Int} (hn : l.length = n) : SW (SW l (List.replicate n L)) (List.replicate n L) = l := by
  have hl := SW_odd_len h0 h1 ho n l
  refine List.ext_getElem (by rw [SW_odd_len h0 h1 ho, hn]) fun i i1 i2 => ?_
  have h3 : (SW (SW l (List.replicate n L)) (List.replicate n L)).getD i 0 = l.getD i 0 := by
    rw [SW_odd h0 h1 ho hl (by omega), SW_odd h0 h1 ho hn (by omega), show n - 1 - (n - 1 - i) = i by omega]
    exact gl_twice (by decide) (by decide)
  simpa [List.getD, i1, i2] using h3
end Mi
end Go.Proofs.YtchpdokjalbpnaaDoor
