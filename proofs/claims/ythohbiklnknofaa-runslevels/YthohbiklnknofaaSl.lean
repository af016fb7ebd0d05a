/- Lists of sequences in memory; Sequences. -/
import Derived.Test.YthohbiklnknofaaSr
import Derived.Test.YthohbiklnknofaaRes
namespace Go.Proofs.Ythohbiklnknofaa
open Go.RowKit Go.Maps
set_option linter.unusedVariables false
set_option maxHeartbeats 1000000
set_option maxRecDepth 100000
namespace Rn
structure Sq where
  places : List Nat
  lvl : Int
  sos : Int
  eos : Int
instance : Inhabited Sq := ⟨⟨[], 0, 0, 0⟩⟩
/-- The sequence that begins with a run. -/
def sq (b : Int) (lv mt : List Int) (rs : List (List Nat)) (k : Nat) : Sq :=
  ⟨plc rs (chn (fo mt rs) (rs.length - k) k), lvl lv rs k, sd (lvl lv rs k) (ah b lv rs k), sd (lvl lv rs k) (bh b lv mt rs (ltc (fo mt rs) (rs.length - k) k))⟩
/-- Those that begin among the first k runs. -/
def sqs (b : Int) (lv mt : List Int) (rs : List (List Nat)) (k : Nat) : List Sq := ((List.range k).filter (bg mt rs)).map (sq b lv mt rs)
theorem sqs_yes {b : Int} {lv mt : List Int} {rs : List (List Nat)} {k : Nat} (h : bg mt rs k = true) : sqs b lv mt rs (k + 1) = sqs b lv mt rs k ++ [sq b lv mt rs k] := by
  unfold sqs
  rw [List.range_succ, List.filter_append, List.map_append]
  simp [h]
theorem sqs_no {b : Int} {lv mt : List Int} {rs : List (List Nat)} {k : Nat} (h : bg mt rs k = false) : sqs b lv mt rs (k + 1) = sqs b lv mt rs k := by
  unfold sqs
  rw [List.range_succ, List.filter_append, List.map_append]
  simp [h]
theorem sqs_len (b : Int) (lv mt : List Int) (rs : List (List Nat)) (k : Nat) : (sqs b lv mt rs k).length ≤ k := by
  unfold sqs
  rw [List.length_map]
  exact Nat.le_trans (List.length_filter_le _ _) (by simp)
end Rn
/-- A sequence's cells. -/
def sc (h : Nat × Nat) (s : Rn.Sq) : List Value := [.slice (some ⟨h.1, 0, none⟩) s.places.length h.2, .int .i64 s.lvl, .int .i64 s.sos, .int .i64 s.eos]
def scs (hs : List (Nat × Nat)) (ss : List Rn.Sq) : List Value := (List.zipWith sc hs ss).flatten
theorem scs_snoc {hs : List (Nat × Nat)} {ss : List Rn.Sq} (h : hs.length = ss.length) (a : Nat × Nat) (s : Rn.Sq) : scs (hs ++ [a]) (ss ++ [s]) = scs hs ss ++ sc a s := by
  unfold scs
  rw [List.zipWith_append h]
  simp
theorem scs_at : ∀ (hs : List (Nat × Nat)) (ss : List Rn.Sq) (j i : Nat), hs.length = ss.length → j < ss.length → i < 4 → (scs hs ss)[j * 4 + i]? = (sc (hs.getD j (0, 0)) (ss.getD j default))[i]? := by
  intro hs
  induction hs with
  | nil => intro ss j i h hj; simp at h; rw [← h] at hj; omega
  | cons a t ih =>
    intro ss j i h hj hi
    cases ss with
    | nil => simp at hj
    | cons s r =>
      have e : scs (a :: t) (s :: r) = sc a s ++ scs t r := by simp [scs]
      rw [e]
      cases j with
      | zero => rw [List.getElem?_append_left (by simp [sc]; omega)]; simp [List.getD]
      | succ j =>
        rw [List.getElem?_append_right (by simp [sc]; omega)]
        have := ih r j i (by simpa using h) (by simpa using hj) hi
        rw [show (j + 1) * 4 + i - (sc a s).length = j * 4 + i from by simp [sc]; omega, this]
        simp [List.getD]
theorem own_types4 {w : World} {B B' e e' z z' n m : Nat} {v u : Value} {xs ys : List Value} (h : w.ownsRow B e z v n xs) (h' : w.ownsRow B' e' z' u m ys) (hne : ¬ e = e') (g : Nat) (h1 : v.ownBlock = some g) : ¬ u.ownBlock = some g := by
  intro h2
  rcases h.2 with ⟨rfl, _⟩ | ⟨a, cap, cur, rfl, _, ha, _⟩
  · simp [Value.ownBlock] at h1
  · rcases h'.2 with ⟨rfl, _⟩ | ⟨a', cap', cur', rfl, _, ha', _⟩
    · simp [Value.ownBlock] at h2
    · simp [Value.ownBlock] at h1 h2
      subst h1 h2
      rw [ha] at ha'
      simp at ha'
      exact hne ha'.2
structure SO (B : Nat) (w : World) (v : Value) (hs : List (Nat × Nat)) (ss : List Rn.Sq) : Prop where
  oa : w.ownsRow B 36 4 v ss.length (scs hs ss)
  lh : hs.length = ss.length
  rows : ∀ j, j < ss.length → w.ownsRow B 3 1 (.slice (some ⟨(hs.getD j (0, 0)).1, 0, none⟩) (ss.getD j default).places.length (hs.getD j (0, 0)).2) (ss.getD j default).places.length ((Rn.zs (ss.getD j default).places).map (Value.int .i64))
section
variable {B : Nat} {w : World} {v : Value} {hs : List (Nat × Nat)} {ss : List Rn.Sq}
theorem SO.begin (B : Nat) (w : World) : SO B w (.slice none 0 0) [] [] := ⟨World.ownsRow_nil _ _ _ _, rfl, fun j hj => by simp at hj⟩
theorem SO.below (h : SO B w v hs ss) {w' : World} (hb : Below w.heap.size w w') : SO B w' v hs ss := ⟨owns_below h.oa hb, h.lh, fun j hj => owns_below (h.rows j hj) hb⟩
theorem SO.push (h : SO B w v hs ss) {w' : World} {v' : Value} {g cp : Nat} {s : Rn.Sq} (hr : w.ownsRow B 3 1 (.slice (some ⟨g, 0, none⟩) s.places.length cp) s.places.length ((Rn.zs s.places).map (Value.int .i64)))
    (ho : w'.ownsRow B 36 4 v' (ss.length + 1) (scs hs ss ++ sc (g, cp) s)) (hg : w.grownBy w' v.ownBlock) : SO B w' v' (hs ++ [(g, cp)]) (ss ++ [s]) := by
  have key : ∀ {u : Value} {m : Nat} {ys : List Value}, w.ownsRow B 3 1 u m ys → w'.ownsRow B 3 1 u m ys := by
    intro u m ys hu
    refine hu.kept hg ?_
    cases hx : u.ownBlock with
    | none => exact .inl rfl
    | some q => exact .inr (fun h1 => own_types4 h.oa hu (by decide) q h1.symm hx)
  refine ⟨by rw [scs_snoc h.lh, List.length_append]; exact ho, by simp [h.lh], fun j hj => ?_⟩
  by_cases hj2 : j < ss.length
  · have e1 : (hs ++ [(g, cp)]).getD j (0, 0) = hs.getD j (0, 0) := by simp [List.getD, List.getElem?_append_left (show j < hs.length by rw [h.lh]; exact hj2)]
    have e2 : (ss ++ [s]).getD j default = ss.getD j default := by simp [List.getD, List.getElem?_append_left hj2]
    rw [e1, e2]
    exact key (h.rows j hj2)
  · obtain rfl : j = ss.length := by simp at hj; omega
    have e1 : (hs ++ [(g, cp)]).getD ss.length (0, 0) = (g, cp) := by simp [List.getD, ← h.lh]
    have e2 : (ss ++ [s]).getD ss.length default = s := by simp [List.getD]
    rw [e1, e2]
    exact key hr
end
/-- A list of sequences as it is read. -/
structure SL (w : World) (ao : Option Addr) (n cap : Nat) (ss : List Rn.Sq) : Prop where
  len : ss.length = n
  le : n ≤ cap
  at' : ∀ j, j < n → ∃ g gj cj, ao = some ⟨g, 0, none⟩ ∧ g < w.heap.size ∧ w.cell? ⟨g, j * 4, none⟩ = some (.slice (some ⟨gj, 0, none⟩) (ss.getD j default).places.length cj) ∧ w.cell? ⟨g, j * 4 + 1, none⟩ = some (.int .i64 (ss.getD j default).lvl) ∧ w.cell? ⟨g, j * 4 + 2, none⟩ = some (.int .i64 (ss.getD j default).sos) ∧ w.cell? ⟨g, j * 4 + 3, none⟩ = some (.int .i64 (ss.getD j default).eos) ∧ Row .i64 w (some ⟨gj, 0, none⟩) (ss.getD j default).places.length cj (Rn.zs (ss.getD j default).places)
theorem SL.below {w : World} {ao : Option Addr} {n cap : Nat} {ss : List Rn.Sq} (h : SL w ao n cap ss) {w' : World} (hb : Below w.heap.size w w') : SL w' ao n cap ss :=
  ⟨h.len, h.le, fun j hj => by
    obtain ⟨g, gj, cj, h1, h2, h3, h4, h5, h6, h7⟩ := h.at' j hj
    exact ⟨g, gj, cj, h1, Nat.lt_of_lt_of_le h2 hb.size, (hb.cell (by exact h2)).trans h3, (hb.cell (by exact h2)).trans h4, (hb.cell (by exact h2)).trans h5, (hb.cell (by exact h2)).trans h6, h7.below hb⟩⟩
theorem SO.view {B : Nat} {w : World} {v : Value} {hs : List (Nat × Nat)} {ss : List Rn.Sq} (h : SO B w v hs ss) : ∃ ao cap, v = .slice ao ss.length cap ∧ SL w ao ss.length cap ss := by
  obtain ⟨ao, cap, rfl, hle⟩ := owns_form h.oa
  refine ⟨ao, cap, rfl, rfl, hle, fun j hj => ?_⟩
  obtain ⟨g, c2, e, _, _⟩ := owns_pos h.oa (by omega)
  simp only [Value.slice.injEq] at e
  obtain ⟨rfl, _, rfl⟩ := e
  have hlen : (scs hs ss).length = ss.length * 4 := h.oa.1
  have key : ∀ i, i < 4 → w.cell? ⟨g, j * 4 + i, none⟩ = (sc (hs.getD j (0, 0)) (ss.getD j default))[i]? := fun i hi => by
    rw [h.oa.cellAt (j * 4 + i) (by omega)]
    exact scs_at hs ss j i h.lh hj hi
  exact ⟨g, (hs.getD j (0, 0)).1, (hs.getD j (0, 0)).2, rfl, (h.oa.lt g rfl).2, key 0 (by omega), key 1 (by omega), key 2 (by omega), key 3 (by omega), row_owned (h.rows j hj)⟩
end Go.Proofs.Ythohbiklnknofaa
