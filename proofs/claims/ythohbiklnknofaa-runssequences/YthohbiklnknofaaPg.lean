/- The paragraph that sequences are told by: its parts in memory; begins, last, level, ahead, behind, side; firsts. -/
import Derived.Test.YthohbiklnknofaaLl
import Derived.Test.YthohbiklnknofaaRs
import Derived.Maps.OwnSet
import Derived.Maps.OwnOps
namespace Go.Proofs.Ythohbiklnknofaa
open Go.RowKit Go.Maps
set_option linter.unusedVariables false
set_option maxHeartbeats 1000000
set_option maxRecDepth 100000
/-- A list of lists as it is read. -/
structure LL (w : World) (ao : Option Addr) (N cap : Nat) (rs : List (List Nat)) : Prop where
  len : rs.length = N
  le : N ≤ cap
  at' : ∀ j, j < N → ∃ g gj cj, ao = some ⟨g, 0, none⟩ ∧ g < w.heap.size ∧ w.cell? ⟨g, j, none⟩ = some (.slice (some ⟨gj, 0, none⟩) (Rn.rn rs j).length cj) ∧ Row .i64 w (some ⟨gj, 0, none⟩) (Rn.rn rs j).length cj (Rn.zs (Rn.rn rs j))
theorem LL.below {w : World} {ao : Option Addr} {N cap : Nat} {rs : List (List Nat)} (h : LL w ao N cap rs) {w' : World} (hb : Below w.heap.size w w') : LL w' ao N cap rs :=
  ⟨h.len, h.le, fun j hj => by
    obtain ⟨g, gj, cj, h1, h2, h3, h4⟩ := h.at' j hj
    exact ⟨g, gj, cj, h1, Nat.lt_of_lt_of_le h2 hb.size, (hb.cell (by exact h2)).trans h3, h4.below hb⟩⟩
theorem LO.view {B : Nat} {w : World} {v : Value} {vs : List Value} {rs : List (List Nat)} (h : LO B w v vs rs) (hp : ∀ j, j < rs.length → 0 < (Rn.rn rs j).length) : ∃ ao cap, v = .slice ao rs.length cap ∧ LL w ao rs.length cap rs := by
  have hl := h.len
  obtain ⟨ao, cap, rfl, hle⟩ := owns_form h.oa
  refine ⟨ao, cap, rfl, rfl, hle, fun j hj => ?_⟩
  obtain ⟨g, c2, e, _, _⟩ := owns_pos h.oa (by omega)
  simp only [Value.slice.injEq] at e
  obtain ⟨rfl, _, rfl⟩ := e
  obtain ⟨u, hu, hou⟩ := h.rows j hj
  obtain ⟨gu, cu, rfl, _, _⟩ := owns_pos hou (hp j hj)
  exact ⟨g, gu, cu, rfl, (h.oa.lt g rfl).2, by rw [h.oa.cellAt j (by omega)]; exact hu, row_owned hou⟩
namespace Rn
/-- The number of the run that begins at a place, among the first k. -/
def fi (rs : List (List Nat)) (k : Nat) (z : Int) : Option Nat := (List.range k).find? fun i => (fst rs i : Int) == z
theorem fi_succ (rs : List (List Nat)) (k : Nat) (z : Int) : fi rs (k + 1) z = (fi rs k z).or (if (fst rs k : Int) == z then some k else none) := by
  unfold fi
  rw [List.range_succ, List.find?_append]
  congr 1
  simp only [List.find?_cons, List.find?_nil]
  cases ((fst rs k : Int) == z) <;> rfl
theorem fi_some {rs : List (List Nat)} {k j : Nat} {z : Int} (h : fi rs k z = some j) : j < k ∧ (fst rs j : Int) = z := by
  unfold fi at h
  have h1 := List.find?_some h
  have h2 := List.mem_of_find?_eq_some h
  exact ⟨List.mem_range.1 h2, by simpa using h1⟩
theorem fi_none {rs : List (List Nat)} {k : Nat} {z : Int} (h : fi rs k z = none) (j : Nat) (hj : j < k) : ¬ (fst rs j : Int) = z := by
  unfold fi at h
  have := List.find?_eq_none.1 h j (List.mem_range.2 hj)
  simpa using this
def oi : Option Nat → Int
  | none => -1
  | some j => (j : Int)
/-- The level of a run; does it end with an initiator; the run that follows. -/
def lvl (lv : List Int) (rs : List (List Nat)) (k : Nat) : Int := lv.getD (fst rs k) 0
def en (mt : List Int) (rs : List (List Nat)) (k : Nat) : Bool := decide ((lst rs k : Int) < mt.getD (lst rs k) 0)
def fo (mt : List Int) (rs : List (List Nat)) (k : Nat) : Option Nat := if en mt rs k then fi rs rs.length (mt.getD (lst rs k) 0) else none
def bg (mt : List Int) (rs : List (List Nat)) (k : Nat) : Bool := decide (mt.getD (fst rs k) 0 < 0) || decide ((fst rs k : Int) ≤ mt.getD (fst rs k) 0)
def ah (b : Int) (lv : List Int) (rs : List (List Nat)) (k : Nat) : Int := if k = 0 then b else lvl lv rs (k - 1)
def bh (b : Int) (lv mt : List Int) (rs : List (List Nat)) (k : Nat) : Int := if k = rs.length - 1 then b else if en mt rs k then b else lvl lv rs (k + 1)
def sd (a b : Int) : Int := if (max a b).tmod 2 = 1 then 2 else 1
end Rn
/-- What the map of first places holds. -/
def MD (rs : List (List Nat)) (k : Nat) (D : DataW Unit) : Prop := IsMap D ∧ ∀ z : Int, Maps.has D (.int .i64 z) = (Rn.fi rs k z).isSome ∧ ∀ zd, D.atKey (.int .i64 z) zd = match Rn.fi rs k z with | some j => .lit (.int .i64 (j : Int)) | none => zd
theorem MD.nil (rs : List (List Nat)) : MD rs 0 (.map []) := ⟨isMap_empty, fun z => ⟨rfl, fun zd => rfl⟩⟩
theorem MD.step {rs : List (List Nat)} {k : Nat} {D : DataW Unit} (h : MD rs k D) (hd : ∀ j, j < k → ¬ Rn.fst rs j = Rn.fst rs k) : MD rs (k + 1) (D.put (.int .i64 (Rn.fst rs k : Int)) (.lit (.int .i64 (k : Int)))) := by
  refine ⟨h.1.put _ _, fun z => ?_⟩
  rw [Rn.fi_succ]
  by_cases hz : (Rn.fst rs k : Int) = z
  · subst hz
    have hn : Rn.fi rs k (Rn.fst rs k : Int) = none := by
      cases hf : Rn.fi rs k (Rn.fst rs k : Int) with
      | none => rfl
      | some j =>
        obtain ⟨h1, h2⟩ := Rn.fi_some hf
        exact absurd (by omega) (hd j h1)
    rw [hn]
    simp only [BEq.rfl, if_true, Option.none_or]
    have ht : WideAt.IsKeyLit (Lit.int .i64 (Rn.fst rs k : Int)) := trivial
    exact ⟨has_put_same h.1 ht _, fun zd => atKey_put_same h.1 ht _ _⟩
  · have hne : (Lit.int .i64 z) ≠ (.int .i64 (Rn.fst rs k : Int)) := fun e => hz (by simpa using e.symm)
    have hb : ((Rn.fst rs k : Int) == z) = false := beq_false_of_ne hz
    rw [hb]
    simp only [Bool.false_eq_true, if_false, Option.or_none]
    obtain ⟨h1, h2⟩ := h.2 z
    exact ⟨(has_put_other hne _).trans h1, fun zd => (atKey_put_other hne _ _).trans (h2 zd)⟩
theorem lawInt : Keyed Try.prog 3 := int_keyed Try.underlying3
theorem zeroInt (w : World) : (zeroValue 3).run Try.prog w = .ok (.int .i64 0) w := by kernel_rfl
/-- The map is asked. -/
theorem MD.look {rs : List (List Nat)} {k : Nat} {D : DataW Unit} (h : MD rs k D) {w : World} {mp n : Nat} (ho : w.ownsMap Try.prog 3 (plainElem Try.prog 3) mp n D) (z : Int) (hz : (Lit.int .i64 z).wf = true) :
    (Instr.lookup 44 (.map (some mp)) (.int .i64 z) true).run Try.prog w = .ok (.tuple #[.int .i64 (((Rn.fi rs k z).getD 0 : Nat) : Int), .bool (Rn.fi rs k z).isSome]) w := by
  obtain ⟨v, ps, h1, h2⟩ := ho.look_ok lawInt Try.underlying44 (zeroInt w) (plainElem_int (H := Unit) Try.underlying3 (q := .i64) (a := 0) (by decide)) (keyOf_int_mk Try.underlying3 hz)
  obtain ⟨c, rfl, h3, _⟩ := plainElem_int_inv Try.underlying3 h2
  obtain ⟨g1, g2⟩ := h.2 z
  rw [h1, g1]
  rw [g2] at h3
  cases hf : Rn.fi rs k z with
  | none =>
    rw [hf] at h3
    simp only [Prod.mk.injEq] at h3
    obtain ⟨h3, _⟩ := h3
    simp at h3
    subst h3
    rfl
  | some j =>
    rw [hf] at h3
    simp only [Prod.mk.injEq] at h3
    obtain ⟨h3, _⟩ := h3
    simp at h3
    subst h3
    rfl
theorem ownsMap_below {w w' : World} {mp n : Nat} {D : DataW Unit} (h : w.ownsMap Try.prog 3 (plainElem Try.prog 3) mp n D) (hb : Below w.heap.size w w') : w'.ownsMap Try.prog 3 (plainElem Try.prog 3) mp n D := by
  have hl := h.lt
  obtain ⟨es, clock, h1, h2⟩ := h
  exact ⟨es, clock, (hb.block mp hl).trans h1, h2⟩
theorem run_make_firsts (w : World) (N : Nat) : (Instr.makeMap 44 (some (.int .i64 (N : Int)))).run Try.prog w = .ok (.map (some w.heap.size)) (w.alloc (.map #[] 0)) := by
  simp [Instr.makeMap, run_underlying Try.underlying44, asInt, asIntOf]
theorem wf_nat {x : Nat} (h : x ≤ 9223372036854775807) : (Lit.int .i64 (x : Int)).wf = true := WalkArith.wf_i64 (by omega)
theorem firsts_any (ao : Option Addr) (N cap : Nat) (rs : List (List Nat)) (w : World) (h : LL w ao N cap rs) (hN : N ≤ 5864062014634) (hp : ∀ j, j < N → 0 < (Rn.rn rs j).length) (hf : ∀ j, j < N → Rn.fst rs j ≤ 17592186044416) (hd : ∀ i j, i < j → j < N → ¬ Rn.fst rs i = Rn.fst rs j) :
    Calls Try.prog 22 #[.slice ao N cap] w fun e w' => e = .returned (.map (some w.heap.size)) ∧ (∃ D, w'.ownsMap Try.prog 3 (plainElem Try.prog 3) w.heap.size N D ∧ MD rs N D) ∧ Below w.heap.size w w' := by
  have hmm := run_make_firsts
  have H := hide h
  have HP := hide hp
  have HF := hide hf
  have HD := hide hd
  clear h hp hf hd
  go_enter Try.func22, Try.ntmps22
  go_wp2
  go_loopw [11] (fun i wr => ∃ k : Nat, k ≤ N ∧ i = .int .i64 (k : Int) ∧ Hid ((∃ D, wr.ownsMap Try.prog 3 (plainElem Try.prog 3) w.heap.size k D ∧ MD rs k D) ∧ Below w.heap.size w wr)) (fun i _ => N - (intOf i).toNat)
  case atStart => exact ⟨0, Nat.zero_le _, rfl, hide ⟨⟨_, World.ownsMap_made _ _ _ _, MD.nil rs⟩, (Below.refl _ _).alloc (Nat.le_refl _) _⟩⟩
  case round =>
    obtain ⟨k, hk, rfl, hm⟩ := hrel
    obtain ⟨⟨D, hown, hD⟩, hnx⟩ := hm.out
    by_cases hlt : k < N
    · obtain ⟨g, gj, cj, rfl, hg, hc, hrow⟩ := (H.out.below hnx).at' k hlt
      have hp0 := HP.out k hlt
      obtain ⟨_, _, e1, _, hcr⟩ := hrow.cells hp0
      simp only [Option.some.injEq, Addr.mk.injEq, and_true] at e1
      obtain ⟨rfl, rfl⟩ := e1
      have c0 := hcr 0 (by rw [Rn.zs_len]; exact hp0)
      rw [Rn.zs_at _ _ hp0, show (Rn.rn rs k).getD 0 0 = Rn.fst rs k from rfl] at c0
      have hkey : keyOf Try.prog 3 (.int .i64 (Rn.fst rs k : Int)) = some (.int .i64 (Rn.fst rs k : Int)) := keyOf_int_mk Try.underlying3 (wf_nat (by have := HF.out k hlt; omega))
      have HDS := hide (hD.step (fun j hj => HD.out j k hj hlt))
      have hin : (k : Int) < (N : Int) := by omega
      generalize (Rn.rn rs k).length = m at *
      have hm0 : (0 : Int) < (m : Int) := by omega
      generalize Rn.fst rs k = f at *
      clear hcr hm hD hrow
      go_wp2_with (at_mapUpdate; refine wpList_mapUpdate_own _ rfl _ _ _ 44 rfl 3 3 lawInt Try.underlying44 _ w.heap.size k _ rfl hown (by unfold maxLen; omega) _ _ _ rfl rfl hkey _ [] (plainElem_int Try.underlying3 (wf_nat (by omega))) ?_; intro w1 hown1 hgrow1)
      go_roundw
      case rel => exact ⟨k + 1, by omega, by go_num, hide ⟨⟨_, hown1, HDS.out⟩, hnx.grown hgrow1 hnx.size (fun j hj => by cases hj; exact Nat.le_refl _)⟩⟩
      case measure => simp [intOf]; omega
    · obtain rfl : k = N := by omega
      have hne : ¬ ((k : Int) < (k : Int)) := by omega
      clear hm
      go_wp2
      go_ret
      exact ⟨rfl, ⟨D, hown, hD⟩, hnx⟩
/-- The paragraph in memory. -/
structure PG (w : World) (p : Nat) (b : Int) (lv mt : List Int) (rs : List (List Nat)) (bl bm n : Nat) (ao : Option Addr) (N cap mp : Nat) : Prop where
  c0 : w.cell? ⟨p, 0, none⟩ = some (.int .i64 b)
  c1 : w.cell? ⟨p, 1, none⟩ = some (.slice (some ⟨bl, 0, none⟩) n n)
  c2 : w.cell? ⟨p, 2, none⟩ = some (.slice (some ⟨bm, 0, none⟩) n n)
  c3 : w.cell? ⟨p, 3, none⟩ = some (.slice ao N cap)
  c4 : w.cell? ⟨p, 4, none⟩ = some (.map (some mp))
  lt : p < w.heap.size
  rl : Row .i64 w (some ⟨bl, 0, none⟩) n n lv
  rm : Row .i64 w (some ⟨bm, 0, none⟩) n n mt
  ll : LL w ao N cap rs
  mo : ∃ D, w.ownsMap Try.prog 3 (plainElem Try.prog 3) mp N D ∧ MD rs N D
  runs : Rn.Runs lv rs
  hn : n ≤ 2000
section
variable {w : World} {p : Nat} {b : Int} {lv mt : List Int} {rs : List (List Nat)} {bl bm n : Nat} {ao : Option Addr} {N cap mp : Nat}
theorem PG.below (h : PG w p b lv mt rs bl bm n ao N cap mp) {w' : World} (hb : Below w.heap.size w w') : PG w' p b lv mt rs bl bm n ao N cap mp := by
  obtain ⟨D, h1, h2⟩ := h.mo
  have hl := h.lt
  exact ⟨(hb.cell (by exact hl)).trans h.c0, (hb.cell (by exact hl)).trans h.c1, (hb.cell (by exact hl)).trans h.c2, (hb.cell (by exact hl)).trans h.c3, (hb.cell (by exact hl)).trans h.c4, Nat.lt_of_lt_of_le hl hb.size, h.rl.below hb, h.rm.below hb, h.ll.below hb, ⟨D, ownsMap_below h1 hb, h2⟩, h.runs, h.hn⟩
theorem PG.drewN (h : PG w p b lv mt rs bl bm n ao N cap mp) (q : Nat) : PG (w.drewN q) p b lv mt rs bl bm n ao N cap mp := h.below (below_drewN w q)
/-- A run's cells: its first and its last place. -/
theorem PG.run (h : PG w p b lv mt rs bl bm n ao N cap mp) {k : Nat} (hk : k < N) : ∃ g gj cj m, ao = some ⟨g, 0, none⟩ ∧ w.cell? ⟨g, k, none⟩ = some (.slice (some ⟨gj, 0, none⟩) (m + 1) cj) ∧ (Rn.rn rs k).length = m + 1 ∧ m + 1 ≤ 2000 ∧ Row .i64 w (some ⟨gj, 0, none⟩) (m + 1) cj (Rn.zs (Rn.rn rs k)) ∧ w.cell? ⟨gj, 0, none⟩ = some (.int .i64 (Rn.fst rs k : Int)) ∧ w.cell? ⟨gj, m, none⟩ = some (.int .i64 (Rn.lst rs k : Int)) ∧ Rn.fst rs k < n ∧ Rn.lst rs k < n := by
  have hN := h.ll.len
  have hr := h.runs
  have hlv := h.rl.len
  obtain ⟨g, gj, cj, rfl, hg, hc, hrow⟩ := h.ll.at' k hk
  have hp := hr.pos k (by omega)
  obtain ⟨m, hm⟩ : ∃ m, (Rn.rn rs k).length = m + 1 := ⟨(Rn.rn rs k).length - 1, by omega⟩
  have hml : (Rn.rn rs k).length ≤ n := by
    have h1 := Rn.mem_len (Rn.rn_mem (show k < rs.length by omega))
    rw [hr.flat] at h1
    have h2 := List.length_filter_le (Rn.kp lv) (List.range lv.length)
    rw [List.length_range] at h2
    omega
  have hn := h.hn
  obtain ⟨_, _, e1, _, hcr⟩ := hrow.cells hp
  simp only [Option.some.injEq, Addr.mk.injEq, and_true] at e1
  obtain ⟨rfl, rfl⟩ := e1
  have h0 := hcr 0 (by rw [Rn.zs_len]; exact hp)
  have h1 := hcr m (by rw [Rn.zs_len]; omega)
  rw [Nat.zero_add, Rn.zs_at _ _ (by omega)] at h0 h1
  have e2 : (Rn.rn rs k).getD m 0 = Rn.lst rs k := by unfold Rn.lst; rw [hm, Nat.add_sub_cancel]
  rw [e2] at h1
  have k0 := (hr.kept k 0 (by omega) hp).1
  have k1 := (hr.kept k m (by omega) (by omega)).1
  rw [e2] at k1
  rw [hm] at hc hrow
  exact ⟨g, gj, cj, m, rfl, hc, hm, by omega, hrow, h0, h1, by rw [← hlv]; exact k0, by rw [← hlv]; exact k1⟩
theorem row_at {k : IntKind} {W : World} {b n cap : Nat} {zs : List Int} (h : Row k W (some ⟨b, 0, none⟩) n cap zs) {i : Nat} (hi : i < n) : W.cell? ⟨b, i, none⟩ = some (.int k (zs.getD i 0)) := by
  obtain ⟨_, _, e, _, hc⟩ := h.cells (by omega)
  simp only [Option.some.injEq, Addr.mk.injEq, and_true] at e
  obtain ⟨rfl, rfl⟩ := e
  have := hc i (by rw [h.len]; exact hi)
  rw [Nat.zero_add] at this
  exact this
theorem PG.le (h : PG w p b lv mt rs bl bm n ao N cap mp) : N ≤ 2000 := by
  have h1 := Rn.flat_len (rs := rs) (fun r hr e => by
    subst e
    obtain ⟨j, hj, e2⟩ := List.mem_iff_getElem.1 hr
    have := h.runs.pos j hj
    have e3 : Rn.rn rs j = [] := by unfold Rn.rn; simp [List.getD, hj, e2]
    rw [e3] at this
    simp at this)
  rw [h.runs.flat] at h1
  have h2 := List.length_filter_le (Rn.kp lv) (List.range lv.length)
  rw [List.length_range] at h2
  have := h.hn
  have := h.rl.len
  have := h.ll.len
  omega
theorem plast_any (h : PG w p b lv mt rs bl bm n ao N cap mp) {k : Nat} (hk : k < N) :
    Calls Try.prog 64 #[.pointer (some ⟨p, 0, none⟩), .int .i64 (k : Int)] w fun e w' => e = .returned (.int .i64 (Rn.lst rs k : Int)) ∧ ∃ q, w' = w.drewN q := by
  obtain ⟨g, gj, cj, m, rfl, c1, e1, hm, hrow, c2, c3, l1, l2⟩ := h.run hk
  have c0 := h.c3
  have em : ((m + 1 : Nat) : Int) - 1 = (m : Int) := by omega
  have hin : (k : Int) < (N : Int) := by omega
  have hN := h.le
  generalize Rn.lst rs k = l at *
  generalize Rn.fst rs k = f at *
  clear h hrow e1
  go_enter Try.func64, Try.ntmps64
  go_wp2
  go_quiet (fail)
  go_wp2
  go_ret
  exact ⟨rfl, _, rfl⟩
theorem level_any (h : PG w p b lv mt rs bl bm n ao N cap mp) {k : Nat} (hk : k < N) :
    Calls Try.prog 38 #[.pointer (some ⟨p, 0, none⟩), .int .i64 (k : Int)] w fun e w' => e = .returned (.int .i64 (Rn.lvl lv rs k)) ∧ ∃ q, w' = w.drewN q := by
  obtain ⟨g, gj, cj, m, rfl, c1, e1, hm, hrow, c2, c3, l1, l2⟩ := h.run hk
  have c0 := h.c3
  have d0 := h.c1
  have d1 := row_at h.rl l1
  have hin : (k : Int) < (N : Int) := by omega
  have hfl : ((Rn.fst rs k : Nat) : Int) < (n : Int) := by omega
  have hN := h.le
  have hnn := h.hn
  unfold Rn.lvl
  generalize Rn.lst rs k = l at *
  generalize lv.getD (Rn.fst rs k) 0 = x at *
  generalize Rn.fst rs k = f at *
  clear h hrow e1
  go_enter Try.func38, Try.ntmps38
  go_wp2
  go_quiet (fail)
  go_wp2
  go_ret
  exact ⟨rfl, _, rfl⟩
theorem begins_any (h : PG w p b lv mt rs bl bm n ao N cap mp) {k : Nat} (hk : k < N) :
    Calls Try.prog 23 #[.pointer (some ⟨p, 0, none⟩), .int .i64 (k : Int)] w fun e w' => e = .returned (.bool (Rn.bg mt rs k)) ∧ w = w' := by
  obtain ⟨g, gj, cj, m, rfl, c1, e1, hm, hrow, c2, c3, l1, l2⟩ := h.run hk
  have c0 := h.c3
  have d0 := h.c2
  have d1 := row_at h.rm l1
  have hin : (k : Int) < (N : Int) := by omega
  have hfl : ((Rn.fst rs k : Nat) : Int) < (n : Int) := by omega
  have hN := h.le
  have hnn := h.hn
  unfold Rn.bg
  generalize Rn.lst rs k = l at *
  generalize mt.getD (Rn.fst rs k) 0 = x at *
  generalize Rn.fst rs k = f at *
  clear h hrow e1
  by_cases hx : x < 0
  · rw [decide_eq_true hx, Bool.true_or]
    go_enter Try.func23, Try.ntmps23
    go_wp2
    go_ret
    exact ⟨rfl, rfl⟩
  · rw [decide_eq_false hx, Bool.false_or]
    go_enter Try.func23, Try.ntmps23
    go_wp2
    go_ret
    exact ⟨ret_bool (by simp), rfl⟩
theorem ends_any (h : PG w p b lv mt rs bl bm n ao N cap mp) {k : Nat} (hk : k < N) :
    Calls Try.prog 59 #[.pointer (some ⟨p, 0, none⟩), .int .i64 (k : Int)] w fun e w' => e = .returned (.bool (Rn.en mt rs k)) ∧ ∃ q, w' = w.drewN q := by
  have HL := hide (plast_any h hk)
  obtain ⟨g, gj, cj, m, rfl, c1, e1, hm, hrow, c2, c3, l1, l2⟩ := h.run hk
  have d0 := h.c2
  have d1 := row_at h.rm l2
  have hll : ((Rn.lst rs k : Nat) : Int) < (n : Int) := by omega
  have hnn := h.hn
  unfold Rn.en
  generalize mt.getD (Rn.lst rs k) 0 = x at *
  generalize Rn.lst rs k = l at *
  clear h hrow e1 c1 c2 c3
  go_enter Try.func59, Try.ntmps59
  go_wp2_with fail
  refine HL.out.mono ?_
  rintro e w' ⟨rfl, q, rfl⟩
  have d0' : (w.drewN q).cell? ⟨p, 2, none⟩ = some (.slice (some ⟨bm, 0, none⟩) n n) := d0
  have d1' : (w.drewN q).cell? ⟨bm, l, none⟩ = some (.int .i64 x) := d1
  go_wp2
  go_ret
  exact ⟨ret_bool (by simp), _, rfl⟩
theorem ahead_any (h : PG w p b lv mt rs bl bm n ao N cap mp) {k : Nat} (hk : k < N) :
    Calls Try.prog 40 #[.pointer (some ⟨p, 0, none⟩), .int .i64 (k : Int)] w fun e w' => e = .returned (.int .i64 (Rn.ah b lv rs k)) ∧ ∃ q, w' = w.drewN q := by
  have hN := h.le
  have c0 := h.c0
  by_cases h0 : k = 0
  · subst h0
    have ez : Rn.ah b lv rs 0 = b := rfl
    rw [ez]
    clear h
    go_enter Try.func40, Try.ntmps40
    go_wp2
    go_ret
    exact ⟨rfl, 0, rfl⟩
  · obtain ⟨j, rfl⟩ : ∃ j, k = j + 1 := ⟨k - 1, by omega⟩
    have HL := hide (level_any h (k := j) (by omega))
    have ez : Rn.ah b lv rs (j + 1) = Rn.lvl lv rs j := rfl
    rw [ez]
    generalize Rn.lvl lv rs j = x at *
    have hne : (((j + 1 : Nat) : Int) == 0) = false := beq_false_of_ne (by omega)
    have hne2 : ¬ ((j + 1 : Nat) : Int) = 0 := by omega
    have e1 : ((j + 1 : Nat) : Int) - 1 = (j : Int) := by omega
    clear h
    go_enter Try.func40, Try.ntmps40
    go_wp2_with fail
    refine HL.out.mono ?_
    rintro e w' ⟨rfl, q, rfl⟩
    go_wp2
    go_ret
    exact ⟨rfl, _, rfl⟩
theorem behind_any (h : PG w p b lv mt rs bl bm n ao N cap mp) {k : Nat} (hk : k < N) :
    Calls Try.prog 41 #[.pointer (some ⟨p, 0, none⟩), .int .i64 (k : Int)] w fun e w' => e = .returned (.int .i64 (Rn.bh b lv mt rs k)) ∧ ∃ q, w' = w.drewN q := by
  have hN := h.le
  have c0 := h.c0
  have c3 := h.c3
  have hl := h.ll.len
  have HE := hide (ends_any h hk)
  unfold Rn.bh
  rw [hl]
  by_cases h0 : k = N - 1
  · rw [if_pos h0]
    have e1 : (N : Int) - 1 = (k : Int) := by omega
    clear h
    go_enter Try.func41, Try.ntmps41
    go_wp2
    go_ret
    exact ⟨rfl, 0, rfl⟩
  · rw [if_neg h0]
    have hne : ¬ (k : Int) = (N : Int) - 1 := by omega
    have hne2 : ((k : Int) == (N : Int) - 1) = false := beq_false_of_ne hne
    have HL := hide (fun q => level_any (h.drewN q) (k := k + 1) (by omega))
    have c0q : ∀ q, (w.drewN q).cell? ⟨p, 0, none⟩ = some (.int .i64 b) := fun q => c0
    cases hen : Rn.en mt rs k with
    | true =>
      rw [hen] at HE
      rw [if_pos rfl]
      clear h hen
      go_enter Try.func41, Try.ntmps41
      go_wp2_with (go_at_call 59; refine HE.out.mono ?_; rintro e w' ⟨rfl, q, rfl⟩; have c0' := c0q q)
      go_ret
      exact ⟨rfl, _, rfl⟩
    | false =>
      rw [hen] at HE
      rw [if_neg (by decide)]
      generalize Rn.lvl lv rs (k + 1) = x at *
      have e1 : ((k + 1 : Nat) : Int) = (k : Int) + 1 := by omega
      rw [e1] at HL
      clear h hen
      go_enter Try.func41, Try.ntmps41
      go_wp2_with (first
        | (go_at_call 59; refine HE.out.mono ?_; rintro e w' ⟨rfl, q, rfl⟩; have c0' := c0q q)
        | (go_at_call 38; refine (HL.out _).mono ?_; rintro e w' ⟨rfl, q2, rfl⟩))
      go_ret
      exact ⟨rfl, _, rfl⟩
end
theorem rside_any (x y : Int) (w : World) : Calls Try.prog 39 #[.int .i64 x, .int .i64 y] w fun e w' => e = .returned (.int .i64 (Rn.sd x y)) ∧ w = w' := by
  have hrm : ∀ (w' : World) (ts : Array TypeId) (t : TypeId), (Builtin.max_ ts t #[.int .i64 x, .int .i64 y]).run Try.prog w' = .ok (.int .i64 (max x y)) w' := by
    intro w' ts t
    rw [run_max_int2]
    congr 2
    split <;> omega
  unfold Rn.sd
  generalize max x y = m at *
  by_cases h : m.tmod 2 = 1
  · rw [if_pos h]
    have hb : (m.tmod 2 == 1) = true := by rw [h]; rfl
    clear h
    go_enter Try.func39, Try.ntmps39
    go_wp2
    go_ret
    exact ⟨rfl, rfl⟩
  · rw [if_neg h]
    have hb : (m.tmod 2 == 1) = false := beq_false_of_ne h
    clear h
    go_enter Try.func39, Try.ntmps39
    go_wp2
    go_ret
    exact ⟨rfl, rfl⟩
end Go.Proofs.Ythohbiklnknofaa
