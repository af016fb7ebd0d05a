/- Lists of lists that a call has made and that are read; the program's Runs. -/
import Derived.Test.YtchpdokjalbpnaaDoorOz13
namespace Go.Proofs.YtchpdokjalbpnaaDoor
open Go.RowKit
set_option linter.unusedVariables false
set_option maxHeartbeats 1600000
set_option maxRecDepth 100000
theorem infoInts13 : (Tryd.prog.info? 26).map (fun i => (i.zero, i.size, i.bytes)) = some (some (.slice none 0 0), 1, 24) := by kernel_rfl
theorem unlike_blocks {w : World} {B B' e e' n m : Nat} {v u : Value} {xs ys : List Value} (h : w.ownsRow B e 1 v n xs) (h' : w.ownsRow B' e' 1 u m ys) (hne : ¬ e = e') : u.ownBlock = none ∨ u.ownBlock ≠ v.ownBlock := by
  rcases h.2 with ⟨rfl, _⟩ | ⟨a, cap, cur, rfl, _, ha, _⟩
  · cases hu : u.ownBlock with
    | none => exact .inl rfl
    | some g => exact .inr (by simp [Value.ownBlock])
  · rcases h'.2 with ⟨rfl, _⟩ | ⟨b, cap', cur', rfl, _, hb, _⟩
    · exact .inl rfl
    · refine .inr fun q => ?_
      simp only [Value.ownBlock, Option.some.injEq] at q
      subst q
      rw [ha] at hb
      simp only [Option.some.injEq, Obj.cells.injEq] at hb
      exact hne hb.2.1
/-- A list of lists as it is read. -/
structure RL (w : World) (ao : Option Addr) (cap : Nat) (rows : List (List Int)) : Prop where
  le : rows.length ≤ cap
  max : cap ≤ maxLen
  at' : ∀ j, j < rows.length → ∃ b off a c, ao = some ⟨b, off, none⟩ ∧ b < w.heap.size ∧ w.cell? ⟨b, off + j, none⟩ = some (.slice a (rows.getD j []).length c) ∧ Row .i64 w a (rows.getD j []).length c (rows.getD j [])
theorem RL.below {w w' : World} {ao : Option Addr} {cap : Nat} {rows : List (List Int)} (h : RL w ao cap rows) (hb : KO w w') : RL w' ao cap rows :=
  ⟨h.le, h.max, fun j hj => by
    obtain ⟨b, off, a, c, e, hlt, hc, hr⟩ := h.at' j hj
    exact ⟨b, off, a, c, e, Nat.lt_of_lt_of_le hlt hb.size, (hb.cell (by exact hlt)).trans hc, hr.below hb⟩⟩
/-- One that the call owns, the lists in it too. -/
structure LR (B : Nat) (w : World) (v : Value) (vs : List Value) (rows : List (List Int)) : Prop where
  oa : w.ownsRow B 26 1 v rows.length vs
  rows : ∀ j, j < rows.length → ∃ u, vs[j]? = some u ∧ w.ownsRow B 3 1 u (rows.getD j []).length ((rows.getD j []).map (Value.int .i64))
theorem LR.begin (B : Nat) (w : World) : LR B w (.slice none 0 0) [] [] := ⟨World.ownsRow_nil _ _ _ _, fun j hj => by simp at hj⟩
theorem LR.below {B : Nat} {w w' : World} {v : Value} {vs : List Value} {rows : List (List Int)} (h : LR B w v vs rows) (hb : KO w w') : LR B w' v vs rows :=
  ⟨owns_below h.oa hb, fun j hj => by obtain ⟨u, h1, h2⟩ := h.rows j hj; exact ⟨u, h1, owns_below h2 hb⟩⟩
theorem LR.push {B : Nat} {w w' : World} {v v' u : Value} {vs : List Value} {rows : List (List Int)} {r : List Int} (h : LR B w v vs rows) (hu : w.ownsRow B 3 1 u r.length (r.map (Value.int .i64))) (ho : w'.ownsRow B 26 1 v' (rows.length + 1) (vs ++ [u])) (hg : w.grownBy w' v.ownBlock) : LR B w' v' (vs ++ [u]) (rows ++ [r]) := by
  have hl : vs.length = rows.length := by have := h.oa.1; simpa using this
  refine ⟨by simpa using ho, fun j hj => ?_⟩
  by_cases hj2 : j < rows.length
  · obtain ⟨x, h1, h2⟩ := h.rows j hj2
    have e : (rows ++ [r]).getD j [] = rows.getD j [] := by simp [List.getD, List.getElem?_append_left hj2]
    rw [e]
    exact ⟨x, by rw [List.getElem?_append_left (by omega)]; exact h1, h2.kept hg (unlike_blocks h.oa h2 (by decide))⟩
  · obtain rfl : j = rows.length := by simp at hj; omega
    have e : (rows ++ [r]).getD rows.length [] = r := by simp [List.getD]
    rw [e]
    exact ⟨u, by rw [← hl]; simp, hu.kept hg (unlike_blocks h.oa hu (by decide))⟩
theorem LR.read {B : Nat} {w : World} {v : Value} {vs : List Value} {rows : List (List Int)} (h : LR B w v vs rows) : ∃ a c, v = .slice a rows.length c ∧ RL w a c rows := by
  have hl : vs.length = rows.length := by have := h.oa.1; simpa using this
  rcases h.oa.2 with ⟨rfl, h0⟩ | ⟨g, cap, cur, rfl, hb, hg, hn, hc, hs, ht⟩
  · exact ⟨none, 0, by rw [h0], ⟨by omega, Nat.zero_le _, fun j hj => by omega⟩⟩
  · refine ⟨_, cap, rfl, ⟨hn, hc, fun j hj => ?_⟩⟩
    obtain ⟨u, h1, h2⟩ := h.rows j hj
    obtain ⟨a, c, rfl, hr⟩ := row_of_owns h2
    refine ⟨g, 0, a, c, rfl, (Array.getElem?_eq_some_iff.1 hg).1, ?_, hr⟩
    rw [Nat.zero_add, h.oa.cellAt j (by omega)]
    exact h1
namespace Od
/-- The runs' lists. -/
def rows (lv : List Int) (l : List Nat) (k : Nat) : List (List Int) := (rn lv l k).1.map fun p => Z (pc l p)
def RR (lv : List Int) : List (List Int) := rows lv (OD lv) (OD lv).length
theorem rows_cut {lv : List Int} {l : List Nat} {b e : Nat} (hbe : b < e) (hel : e ≤ l.length) (hb : (rn lv l b).2 = b) (hsame : ∀ k, b ≤ k → k + 1 < e → lv.getD (l.getD (k + 1) 0) 0 = lv.getD (l.getD k 0) 0) (hend : e = l.length ∨ ¬ lv.getD (l.getD e 0) 0 = lv.getD (l.getD (e - 1) 0) 0) :
    rows lv l e = rows lv l b ++ [Z (pc l (b, e))] ∧ (rn lv l e).2 = e := by
  have key : ∀ d, b + d < e → rn lv l (b + d) = rn lv l b := by
    intro d
    induction d with
    | zero => intro _; rfl
    | succ d ih =>
      intro hd
      rw [show b + (d + 1) = (b + d) + 1 by omega, rn_on, ih (by omega)]
      rintro (q | q)
      · omega
      · exact q (hsame (b + d) (by omega) (by omega))
  obtain ⟨d, rfl⟩ : ∃ d, e = (b + d) + 1 := ⟨e - 1 - b, by omega⟩
  have hk := key d (by omega)
  have hc := rn_cut (lv := lv) (l := l) (k := b + d) (by simpa using hend)
  rw [hk, hb] at hc
  constructor
  · unfold rows
    rw [hc]
    simp
  · rw [hc]
theorem rows_zero (lv : List Int) (l : List Nat) : rows lv l 0 = [] := rfl
theorem RR_flat (lv : List Int) : (RR lv).flatten = ON lv := by
  have h := rn_all (lv := lv) (l := OD lv)
  unfold RR rows ON Z
  have e : ((rn lv (OD lv) (OD lv).length).1.map fun p => (pc (OD lv) p).map fun (x : Nat) => (x : Int)) = ((rn lv (OD lv) (OD lv).length).1.map (pc (OD lv))).map (List.map fun (x : Nat) => (x : Int)) := by rw [List.map_map]; rfl
  rw [e, ← List.map_flatten, h]
theorem rows_le (lv : List Int) (l : List Nat) : ∀ k, (rows lv l k).length ≤ k
  | 0 => Nat.le_refl _
  | k + 1 => by
    have := rows_le lv l k
    unfold rows at *
    rw [List.length_map] at *
    rw [rn]
    split
    · simp; omega
    · omega
theorem rows_more (lv : List Int) (l : List Nat) (k : Nat) : (rows lv l k).length ≤ (rows lv l (k + 1)).length := by
  unfold rows
  rw [List.length_map, List.length_map, rn]
  split
  · simp
  · exact Nat.le_refl _
theorem rows_mono (lv : List Int) (l : List Nat) (e : Nat) : ∀ d, (rows lv l e).length ≤ (rows lv l (e + d)).length
  | 0 => Nat.le_refl _
  | d + 1 => Nat.le_trans (rows_mono lv l e d) (rows_more lv l (e + d))
theorem rows_all (lv : List Int) {e : Nat} (h : e ≤ (OD lv).length) : (rows lv (OD lv) e).length ≤ (RR lv).length := by
  have := rows_mono lv (OD lv) e ((OD lv).length - e)
  rw [show e + ((OD lv).length - e) = (OD lv).length by omega] at this
  exact this
theorem pc_Z (l : List Nat) {b e : Nat} : Z (pc l (b, e)) = ((Z l).drop b).take (e - b) := by
  unfold pc Z
  simp only
  rw [List.drop_take, List.map_take, List.map_drop]
end Od
end Go.Proofs.YtchpdokjalbpnaaDoor
