import Derived.Test.YtmdmehopefgndaaGreatDoorZ10
import Derived.Test.YtmdmehopefgndaaGreatDoorZ08
import Derived.Maps.OwnSet
import Derived.Maps.OwnOps
import Derived.Test.YtmdmehopefgndaaGreatDoorZ07
/- What Resolve keeps on its way; isParagraph. -/
namespace Go.Proofs.YtmdmehopefgndaaGreatDoor
open Go.RowKit
set_option linter.unusedVariables false
set_option maxHeartbeats 1000000
set_option maxRecDepth 100000
theorem isPara_any (ao : Option Addr) (n cap : Nat) (c : List Int) (w : World) (h : Row .i64 w ao n cap c) (hn : n * 8 ≤ 140737488351232) (F : Bool) (hF : F = true ↔ Ex.Formed c) :
    Calls Tryz.prog 50 #[.slice ao n cap] w fun e w' => e = .returned (.bool F) ∧ w = w' := by
  have H := hide h
  have HL := hide h.len
  have HF := hide hF
  have hn2 : n ≤ 17592186044416 := by omega
  clear h hn hF
  go_enter Tryz.func50, Tryz.ntmps50
  go_wp2
  go_loopw [7] (fun s7 wr => ∃ k : Nat, k ≤ n ∧ s7 = .int .i64 (k : Int) ∧ Hid (∀ i, i < k → 1 ≤ c.getD i 0 ∧ c.getD i 0 ≤ 23 ∧ (c.getD i 0 = 11 → i + 1 = n)) ∧ w = wr) (fun s7 _ => n - (intOf s7).toNat)
  case atStart => exact ⟨0, Nat.zero_le _, rfl, hide (fun i hi => by omega), rfl⟩
  case round =>
    obtain ⟨k, hk, rfl, hall, rfl⟩ := hrel
    by_cases hlt : k < n
    · obtain ⟨b, off, rfl, hbl, hc⟩ := H.out.cells (by omega)
      have ck : w.cell? ⟨b, off + k, none⟩ = some (.int .i64 (c.getD k 0)) := hc k (by rw [HL.out]; exact hlt)
      have hin : (k : Int) < (n : Int) := by omega
      have HNO := hide (fun (hbad : ¬ (1 ≤ c.getD k 0 ∧ c.getD k 0 ≤ 23 ∧ (c.getD k 0 = 11 → k + 1 = n))) => (show F = false from by
        cases hf : F with
        | false => rfl
        | true =>
          have h1 := HF.out.1 hf k (by rw [HL.out]; exact hlt)
          rw [HL.out] at h1
          exact absurd h1 hbad))
      have HYES := hide (fun (hgood : 1 ≤ c.getD k 0 ∧ c.getD k 0 ≤ 23 ∧ (c.getD k 0 = 11 → k + 1 = n)) => (show ∀ i, i < k + 1 → 1 ≤ c.getD i 0 ∧ c.getD i 0 ≤ 23 ∧ (c.getD i 0 = 11 → i + 1 = n) from fun i hi => by
        by_cases hik : i = k
        · subst hik; exact hgood
        · exact hall.out i (by omega)))
      generalize c.getD k 0 = x at *
      clear hc hall
      by_cases h1 : x < 1
      · have HE := hide (HNO.out (fun h => by omega))
        clear HNO HYES
        go_wp2
        go_ret
        exact ⟨ret_bool HE.out.symm, rfl⟩
      · by_cases h2 : 23 < x
        · have HE := hide (HNO.out (fun h => by omega))
          clear HNO HYES
          go_wp2
          go_ret
          exact ⟨ret_bool HE.out.symm, rfl⟩
        · by_cases h3 : x = 11
          · by_cases h4 : (k : Int) < (n : Int) - 1
            · have HE := hide (HNO.out (fun h => by have := h.2.2 h3; omega))
              clear HNO HYES
              go_wp2
              go_ret
              exact ⟨ret_bool HE.out.symm, rfl⟩
            · have HE := hide (HYES.out ⟨by omega, by omega, fun _ => by omega⟩)
              clear HNO HYES
              go_wp2
              go_roundw
              case rel => exact ⟨k + 1, by omega, by go_num, HE, trivial⟩
              case measure => simp [intOf]; omega
          · have HE := hide (HYES.out ⟨by omega, by omega, fun h => absurd h h3⟩)
            have h3' : (x == 11) = false := beq_false_of_ne h3
            clear HNO HYES
            go_wp2
            go_roundw
            case rel => exact ⟨k + 1, by omega, by go_num, HE, trivial⟩
            case measure => simp [intOf]; omega
    · obtain rfl : k = n := by omega
      have hne : ¬ ((k : Int) < (k : Int)) := by omega
      have HE := hide (show F = true from HF.out.2 (fun i hi => by rw [HL.out] at hi ⊢; exact hall.out i hi))
      clear hall
      go_wp2
      go_ret
      exact ⟨ret_bool HE.out.symm, rfl⟩
theorem made_ints (n : Nat) (hn : n * 8 ≤ 140737488351232) : ∃ cur : Array Value, cur.toList = (List.replicate n (0 : Int)).map (Value.int .i64) ∧ ∀ W : World, (Instr.makeSlice 27 (.int .i64 (n : Int)) (.int .i64 (n : Int))).run Tryz.prog W = .ok (.slice (some ⟨W.heap.size, 0, none⟩) n n) (W.alloc (.cells cur 3)) := by
  obtain ⟨ii, hii, hy0, hy1, hy2⟩ := info_parts infoInt
  refine ⟨madeCells #[.int .i64 0] n, by simp [toList_madeCells_one], fun W => ?_⟩
  have h := run_make (P := Tryz.prog) W 27 3 ii _ Tryz.underlying27 hii hy0 .i64 .i64 (n : Int) (n : Int) (by omega) (Int.le_refl _) (by rw [hy2]; omega) (by omega)
  rw [h, hy1]
  simp [Value.cells]
/-- The rows of levels and types, and Match's. -/
structure RM (w : World) (B bl bt mb n : Nat) (M L T : List Int) (wr : World) : Prop where
  ol : wr.ownsRow w.heap.size 3 1 (.slice (some ⟨bl, 0, none⟩) n n) n (L.map (Value.int .i64))
  ot : wr.ownsRow w.heap.size 3 1 (.slice (some ⟨bt, 0, none⟩) n n) n (T.map (Value.int .i64))
  om : wr.ownsRow w.heap.size 3 1 (.slice (some ⟨mb, 0, none⟩) n n) n (M.map (Value.int .i64))
  lt : bl < B ∧ bt < B ∧ mb < B
  ne : ¬ bl = bt ∧ ¬ bl = mb ∧ ¬ bt = mb
  le : w.heap.size ≤ B
  bel : Below w.heap.size w wr
theorem owns_other {w : World} {base e n cap g g' j : Nat} {xs : List Value} {v : Value} (h : w.ownsRow base e 1 (.slice (some ⟨g, 0, none⟩) n cap) n xs) (hne : ¬ g = g') : (w.setCell ⟨g', j, none⟩ v).ownsRow base e 1 (.slice (some ⟨g, 0, none⟩) n cap) n xs := by
  refine ⟨h.1, ?_⟩
  rcases h.2 with ⟨h0, _⟩ | ⟨g2, cap2, cur, hv, hbs, hg, rest⟩
  · cases h0
  · cases hv
    refine .inr ⟨g, cap, cur, rfl, hbs, ?_, rest⟩
    rw [← hg]
    have hne2 : ¬ g' = g := fun h => hne h.symm
    unfold World.setCell
    simp [Array.getElem?_modify, hne2]
section
variable {w : World} {B bl bt mb n : Nat} {M L T : List Int} {wr : World}
theorem RM.keep (h : RM w B bl bt mb n M L T wr) {w2 : World} (hb : Below B wr w2) : RM w B bl bt mb n M L T w2 :=
  ⟨owns_keep h.ol hb h.lt.1, owns_keep h.ot hb h.lt.2.1, owns_keep h.om hb h.lt.2.2, h.lt, h.ne, h.le, h.bel.trans (hb.mono h.le)⟩
theorem RM.set (h : RM w B bl bt mb n M L T wr) (k : Nat) (x y : Int) : RM w B bl bt mb n M (L.set k x) (T.set k y) ((wr.setCell ⟨bl, k, none⟩ (.int .i64 x)).setCell ⟨bt, k, none⟩ (.int .i64 y)) := by
  have hn := h.ne
  refine ⟨owns_other (owns_set h.ol k x) hn.1, owns_set (owns_other h.ot (fun h => hn.1 h.symm)) k y, owns_other (owns_other h.om (fun h => hn.2.1 h.symm)) (fun h => hn.2.2 h.symm), h.lt, h.ne, h.le, ?_⟩
  exact (h.bel.setCell (p := ⟨bl, k, none⟩) (h.ol.lt bl rfl).1 _).setCell (p := ⟨bt, k, none⟩) (h.ot.lt bt rfl).1 _
theorem RM.cl (h : RM w B bl bt mb n M L T wr) {k : Nat} (hk : k < n) : wr.cell? ⟨bl, k, none⟩ = some (.int .i64 (L.getD k 0)) ∧ wr.frozen? ⟨bl, k, none⟩ = false := ⟨owns_cell h.ol k hk, h.ol.frozenAt k⟩
theorem RM.ct (h : RM w B bl bt mb n M L T wr) {k : Nat} (hk : k < n) : wr.cell? ⟨bt, k, none⟩ = some (.int .i64 (T.getD k 0)) ∧ wr.frozen? ⟨bt, k, none⟩ = false := ⟨owns_cell h.ot k hk, h.ot.frozenAt k⟩
theorem RM.cm (h : RM w B bl bt mb n M L T wr) {k : Nat} (hk : k < n) : wr.cell? ⟨mb, k, none⟩ = some (.int .i64 (M.getD k 0)) := owns_cell h.om k hk
end
/-- What is kept behind k rounds. -/
structure RV (w : World) (B p bl bt mb n : Nat) (b : Int) (c : List Int) (k : Nat) (wr : World) : Prop where
  rm : RM w B bl bt mb n (Iso.MT c) (Ex.PL (Ex.lev b (Ex.s0 b) c) n k) (Ex.PL (Ex.typ (Ex.s0 b) c) n k) wr
  sa : ∃ g cap, SA B wr p (Ex.at' (Ex.s0 b) c k) g cap
theorem RV.next {w : World} {B p bl bt mb n : Nat} {b : Int} {c : List Int} {k : Nat} {wr wf : World} {S : Ex.St}
    (hm : RM w B bl bt mb n (Iso.MT c) ((Ex.PL (Ex.lev b (Ex.s0 b) c) n k).set k (Ex.tl b S (c.getD k 0))) ((Ex.PL (Ex.typ (Ex.s0 b) c) n k).set k (Ex.ty S (c.getD k 0))) wr)
    (hS : Ex.mid (Ex.at' (Ex.s0 b) c k) (c.getD k 0) = S) (hb : Below B wr wf) (hs : ∃ g cap, SA B wf p (Ex.at' (Ex.s0 b) c (k + 1)) g cap) : RV w B p bl bt mb n b c (k + 1) wf := by
  subst hS
  have h := hm.keep hb
  refine ⟨?_, hs⟩
  rw [Ex.PL_set, Ex.PL_set]
  exact h
end Go.Proofs.YtmdmehopefgndaaGreatDoor

/- The paragraph that sequences are told by: its parts in memory; begins, last, level, ahead, behind, side; firsts. -/
namespace Go.Proofs.YtmdmehopefgndaaGreatDoor
open Go.RowKit Go.Maps
set_option linter.unusedVariables false
set_option maxHeartbeats 1000000
set_option maxRecDepth 100000
/-- A list of lists as it is read. -/
structure LL (w : World) (ao : Option Addr) (N cap : Nat) (rs : List (List Nat)) : Prop where
  len : rs.length = N
  le : N ≤ cap
  at' : ∀ j, j < N → ∃ g gj cj, ao = some ⟨g, 0, none⟩ ∧ g < w.heap.size ∧ w.cell? ⟨g, j, none⟩ = some (.slice (some ⟨gj, 0, none⟩) (Rn.rn rs j).length cj) ∧ Row .i64 w (some ⟨gj, 0, none⟩) (Rn.rn rs j).length cj (Rn.zs (Rn.rn rs j))
theorem LL.below {w : World} {ao : Option Addr} {N cap : Nat} {rs : List (List Nat)} (h : LL w ao N cap rs) {w' : World} (hb : Below w.heap.size w w') : LL w' ao N cap rs :=
  ⟨h.len, h.le, fun j hj => by
    obtain ⟨g, gj, cj, h1, h2, h3, h4⟩ := h.at' j hj
    exact ⟨g, gj, cj, h1, Nat.lt_of_lt_of_le h2 hb.size, (hb.cell (by exact h2)).trans h3, h4.below hb⟩⟩
theorem LO.view {B : Nat} {w : World} {v : Value} {vs : List Value} {rs : List (List Nat)} (h : LO B w v vs rs) (hp : ∀ j, j < rs.length → 0 < (Rn.rn rs j).length) : ∃ ao cap, v = .slice ao rs.length cap ∧ LL w ao rs.length cap rs := by
  have hl := h.len
  obtain ⟨ao, cap, rfl, hle⟩ := owns_form h.oa
  refine ⟨ao, cap, rfl, rfl, hle, fun j hj => ?_⟩
  obtain ⟨g, c2, e, _, _⟩ := owns_pos h.oa (by omega)
  simp only [Value.slice.injEq] at e
  obtain ⟨rfl, _, rfl⟩ := e
  obtain ⟨u, hu, hou⟩ := h.rows j hj
  obtain ⟨gu, cu, rfl, _, _⟩ := owns_pos hou (hp j hj)
  exact ⟨g, gu, cu, rfl, (h.oa.lt g rfl).2, by rw [h.oa.cellAt j (by omega)]; exact hu, row_owned hou⟩
namespace Rn
/-- The number of the run that begins at a place, among the first k. -/
def fi (rs : List (List Nat)) (k : Nat) (z : Int) : Option Nat := (List.range k).find? fun i => (fst rs i : Int) == z
theorem fi_succ (rs : List (List Nat)) (k : Nat) (z : Int) : fi rs (k + 1) z = (fi rs k z).or (if (fst rs k : Int) == z then some k else none) := by
  unfold fi
  rw [List.range_succ, List.find?_append]
  congr 1
  simp only [List.find?_cons, List.find?_nil]
  cases ((fst rs k : Int) == z) <;> rfl
theorem fi_some {rs : List (List Nat)} {k j : Nat} {z : Int} (h : fi rs k z = some j) : j < k ∧ (fst rs j : Int) = z := by
  unfold fi at h
  have h1 := List.find?_some h
  have h2 := List.mem_of_find?_eq_some h
  exact ⟨List.mem_range.1 h2, by simpa using h1⟩
theorem fi_none {rs : List (List Nat)} {k : Nat} {z : Int} (h : fi rs k z = none) (j : Nat) (hj : j < k) : ¬ (fst rs j : Int) = z := by
  unfold fi at h
  have := List.find?_eq_none.1 h j (List.mem_range.2 hj)
  simpa using this
def oi : Option Nat → Int
  | none => -1
  | some j => (j : Int)
/-- The level of a run; does it end with an initiator; the run that follows. -/
def lvl (lv : List Int) (rs : List (List Nat)) (k : Nat) : Int := lv.getD (fst rs k) 0
def en (mt : List Int) (rs : List (List Nat)) (k : Nat) : Bool := decide ((lst rs k : Int) < mt.getD (lst rs k) 0)
def fo (mt : List Int) (rs : List (List Nat)) (k : Nat) : Option Nat := if en mt rs k then fi rs rs.length (mt.getD (lst rs k) 0) else none
def bg (mt : List Int) (rs : List (List Nat)) (k : Nat) : Bool := decide (mt.getD (fst rs k) 0 < 0) || decide ((fst rs k : Int) ≤ mt.getD (fst rs k) 0)
def ah (b : Int) (lv : List Int) (rs : List (List Nat)) (k : Nat) : Int := if k = 0 then b else lvl lv rs (k - 1)
def bh (b : Int) (lv mt : List Int) (rs : List (List Nat)) (k : Nat) : Int := if k = rs.length - 1 then b else if en mt rs k then b else lvl lv rs (k + 1)
def sd (a b : Int) : Int := if (max a b).tmod 2 = 1 then 2 else 1
end Rn
/-- What the map of first places holds. -/
def MD (rs : List (List Nat)) (k : Nat) (D : DataW Unit) : Prop := IsMap D ∧ ∀ z : Int, Maps.has D (.int .i64 z) = (Rn.fi rs k z).isSome ∧ ∀ zd, D.atKey (.int .i64 z) zd = match Rn.fi rs k z with | some j => .lit (.int .i64 (j : Int)) | none => zd
theorem MD.nil (rs : List (List Nat)) : MD rs 0 (.map []) := ⟨isMap_empty, fun z => ⟨rfl, fun zd => rfl⟩⟩
theorem MD.step {rs : List (List Nat)} {k : Nat} {D : DataW Unit} (h : MD rs k D) (hd : ∀ j, j < k → ¬ Rn.fst rs j = Rn.fst rs k) : MD rs (k + 1) (D.put (.int .i64 (Rn.fst rs k : Int)) (.lit (.int .i64 (k : Int)))) := by
  refine ⟨h.1.put _ _, fun z => ?_⟩
  rw [Rn.fi_succ]
  by_cases hz : (Rn.fst rs k : Int) = z
  · subst hz
    have hn : Rn.fi rs k (Rn.fst rs k : Int) = none := by
      cases hf : Rn.fi rs k (Rn.fst rs k : Int) with
      | none => rfl
      | some j =>
        obtain ⟨h1, h2⟩ := Rn.fi_some hf
        exact absurd (by omega) (hd j h1)
    rw [hn]
    simp only [BEq.rfl, if_true, Option.none_or]
    have ht : WideAt.IsKeyLit (Lit.int .i64 (Rn.fst rs k : Int)) := trivial
    exact ⟨has_put_same h.1 ht _, fun zd => atKey_put_same h.1 ht _ _⟩
  · have hne : (Lit.int .i64 z) ≠ (.int .i64 (Rn.fst rs k : Int)) := fun e => hz (by simpa using e.symm)
    have hb : ((Rn.fst rs k : Int) == z) = false := beq_false_of_ne hz
    rw [hb]
    simp only [Bool.false_eq_true, if_false, Option.or_none]
    obtain ⟨h1, h2⟩ := h.2 z
    exact ⟨(has_put_other hne _).trans h1, fun zd => (atKey_put_other hne _ _).trans (h2 zd)⟩
theorem lawInt : Keyed Tryz.prog 3 := int_keyed Tryz.underlying3
theorem zeroInt (w : World) : (zeroValue 3).run Tryz.prog w = .ok (.int .i64 0) w := by kernel_rfl
/-- The map is asked. -/
theorem MD.look {rs : List (List Nat)} {k : Nat} {D : DataW Unit} (h : MD rs k D) {w : World} {mp n : Nat} (ho : w.ownsMap Tryz.prog 3 (plainElem Tryz.prog 3) mp n D) (z : Int) (hz : (Lit.int .i64 z).wf = true) :
    (Instr.lookup 115 (.map (some mp)) (.int .i64 z) true).run Tryz.prog w = .ok (.tuple #[.int .i64 (((Rn.fi rs k z).getD 0 : Nat) : Int), .bool (Rn.fi rs k z).isSome]) w := by
  obtain ⟨v, ps, h1, h2⟩ := ho.look_ok lawInt Tryz.underlying115 (zeroInt w) (plainElem_int (H := Unit) Tryz.underlying3 (q := .i64) (a := 0) (by decide)) (keyOf_int_mk Tryz.underlying3 hz)
  obtain ⟨c, rfl, h3, _⟩ := plainElem_int_inv Tryz.underlying3 h2
  obtain ⟨g1, g2⟩ := h.2 z
  rw [h1, g1]
  rw [g2] at h3
  cases hf : Rn.fi rs k z with
  | none =>
    rw [hf] at h3
    simp only [Prod.mk.injEq] at h3
    obtain ⟨h3, _⟩ := h3
    simp at h3
    subst h3
    rfl
  | some j =>
    rw [hf] at h3
    simp only [Prod.mk.injEq] at h3
    obtain ⟨h3, _⟩ := h3
    simp at h3
    subst h3
    rfl
theorem ownsMap_below {w w' : World} {mp n : Nat} {D : DataW Unit} (h : w.ownsMap Tryz.prog 3 (plainElem Tryz.prog 3) mp n D) (hb : Below w.heap.size w w') : w'.ownsMap Tryz.prog 3 (plainElem Tryz.prog 3) mp n D := by
  have hl := h.lt
  obtain ⟨es, clock, h1, h2⟩ := h
  exact ⟨es, clock, (hb.block mp hl).trans h1, h2⟩
theorem run_make_firsts (w : World) (N : Nat) : (Instr.makeMap 115 (some (.int .i64 (N : Int)))).run Tryz.prog w = .ok (.map (some w.heap.size)) (w.alloc (.map #[] 0)) := by
  simp [Instr.makeMap, run_underlying Tryz.underlying115, asInt, asIntOf]
theorem wf_nat {x : Nat} (h : x ≤ 9223372036854775807) : (Lit.int .i64 (x : Int)).wf = true := WalkArith.wf_i64 (by omega)
theorem firsts_any (ao : Option Addr) (N cap : Nat) (rs : List (List Nat)) (w : World) (h : LL w ao N cap rs) (hN : N ≤ 5864062014634) (hp : ∀ j, j < N → 0 < (Rn.rn rs j).length) (hf : ∀ j, j < N → Rn.fst rs j ≤ 17592186044416) (hd : ∀ i j, i < j → j < N → ¬ Rn.fst rs i = Rn.fst rs j) :
    Calls Tryz.prog 59 #[.slice ao N cap] w fun e w' => e = .returned (.map (some w.heap.size)) ∧ (∃ D, w'.ownsMap Tryz.prog 3 (plainElem Tryz.prog 3) w.heap.size N D ∧ MD rs N D) ∧ Below w.heap.size w w' := by
  have hmm := run_make_firsts
  have H := hide h
  have HP := hide hp
  have HF := hide hf
  have HD := hide hd
  clear h hp hf hd
  go_enter Tryz.func59, Tryz.ntmps59
  go_wp2
  go_loopw [11] (fun i wr => ∃ k : Nat, k ≤ N ∧ i = .int .i64 (k : Int) ∧ Hid ((∃ D, wr.ownsMap Tryz.prog 3 (plainElem Tryz.prog 3) w.heap.size k D ∧ MD rs k D) ∧ Below w.heap.size w wr)) (fun i _ => N - (intOf i).toNat)
  case atStart => exact ⟨0, Nat.zero_le _, rfl, hide ⟨⟨_, World.ownsMap_made _ _ _ _, MD.nil rs⟩, (Below.refl _ _).alloc (Nat.le_refl _) _⟩⟩
  case round =>
    obtain ⟨k, hk, rfl, hm⟩ := hrel
    obtain ⟨⟨D, hown, hD⟩, hnx⟩ := hm.out
    by_cases hlt : k < N
    · obtain ⟨g, gj, cj, rfl, hg, hc, hrow⟩ := (H.out.below hnx).at' k hlt
      have hp0 := HP.out k hlt
      obtain ⟨_, _, e1, _, hcr⟩ := hrow.cells hp0
      simp only [Option.some.injEq, Addr.mk.injEq, and_true] at e1
      obtain ⟨rfl, rfl⟩ := e1
      have c0 := hcr 0 (by rw [Rn.zs_len]; exact hp0)
      rw [Rn.zs_at _ _ hp0, show (Rn.rn rs k).getD 0 0 = Rn.fst rs k from rfl] at c0
      have hkey : keyOf Tryz.prog 3 (.int .i64 (Rn.fst rs k : Int)) = some (.int .i64 (Rn.fst rs k : Int)) := keyOf_int_mk Tryz.underlying3 (wf_nat (by have := HF.out k hlt; omega))
      have HDS := hide (hD.step (fun j hj => HD.out j k hj hlt))
      have hin : (k : Int) < (N : Int) := by omega
      generalize (Rn.rn rs k).length = m at *
      have hm0 : (0 : Int) < (m : Int) := by omega
      generalize Rn.fst rs k = f at *
      clear hcr hm hD hrow
      go_wp2_with (at_mapUpdate; refine wpList_mapUpdate_own _ rfl _ _ _ 115 rfl 3 3 lawInt Tryz.underlying115 _ w.heap.size k _ rfl hown (by unfold maxLen; omega) _ _ _ rfl rfl hkey _ [] (plainElem_int Tryz.underlying3 (wf_nat (by omega))) ?_; intro w1 hown1 hgrow1)
      go_roundw
      case rel => exact ⟨k + 1, by omega, by go_num, hide ⟨⟨_, hown1, HDS.out⟩, hnx.grown hgrow1 hnx.size (fun j hj => by cases hj; exact Nat.le_refl _)⟩⟩
      case measure => simp [intOf]; omega
    · obtain rfl : k = N := by omega
      have hne : ¬ ((k : Int) < (k : Int)) := by omega
      clear hm
      go_wp2
      go_ret
      exact ⟨rfl, ⟨D, hown, hD⟩, hnx⟩
/-- The paragraph in memory. -/
structure PG (w : World) (p : Nat) (b : Int) (lv mt : List Int) (rs : List (List Nat)) (bl bm n : Nat) (ao : Option Addr) (N cap mp : Nat) : Prop where
  c0 : w.cell? ⟨p, 0, none⟩ = some (.int .i64 b)
  c1 : w.cell? ⟨p, 1, none⟩ = some (.slice (some ⟨bl, 0, none⟩) n n)
  c2 : w.cell? ⟨p, 2, none⟩ = some (.slice (some ⟨bm, 0, none⟩) n n)
  c3 : w.cell? ⟨p, 3, none⟩ = some (.slice ao N cap)
  c4 : w.cell? ⟨p, 4, none⟩ = some (.map (some mp))
  lt : p < w.heap.size
  rl : Row .i64 w (some ⟨bl, 0, none⟩) n n lv
  rm : Row .i64 w (some ⟨bm, 0, none⟩) n n mt
  ll : LL w ao N cap rs
  mo : ∃ D, w.ownsMap Tryz.prog 3 (plainElem Tryz.prog 3) mp N D ∧ MD rs N D
  runs : Rn.Runs lv rs
  hn : n ≤ 2000
section
variable {w : World} {p : Nat} {b : Int} {lv mt : List Int} {rs : List (List Nat)} {bl bm n : Nat} {ao : Option Addr} {N cap mp : Nat}
theorem PG.below (h : PG w p b lv mt rs bl bm n ao N cap mp) {w' : World} (hb : Below w.heap.size w w') : PG w' p b lv mt rs bl bm n ao N cap mp := by
  obtain ⟨D, h1, h2⟩ := h.mo
  have hl := h.lt
  exact ⟨(hb.cell (by exact hl)).trans h.c0, (hb.cell (by exact hl)).trans h.c1, (hb.cell (by exact hl)).trans h.c2, (hb.cell (by exact hl)).trans h.c3, (hb.cell (by exact hl)).trans h.c4, Nat.lt_of_lt_of_le hl hb.size, h.rl.below hb, h.rm.below hb, h.ll.below hb, ⟨D, ownsMap_below h1 hb, h2⟩, h.runs, h.hn⟩
theorem PG.drewN (h : PG w p b lv mt rs bl bm n ao N cap mp) (q : Nat) : PG (w.drewN q) p b lv mt rs bl bm n ao N cap mp := h.below (below_drewN w q)
/-- A run's cells: its first and its last place. -/
theorem PG.run (h : PG w p b lv mt rs bl bm n ao N cap mp) {k : Nat} (hk : k < N) : ∃ g gj cj m, ao = some ⟨g, 0, none⟩ ∧ w.cell? ⟨g, k, none⟩ = some (.slice (some ⟨gj, 0, none⟩) (m + 1) cj) ∧ (Rn.rn rs k).length = m + 1 ∧ m + 1 ≤ 2000 ∧ Row .i64 w (some ⟨gj, 0, none⟩) (m + 1) cj (Rn.zs (Rn.rn rs k)) ∧ w.cell? ⟨gj, 0, none⟩ = some (.int .i64 (Rn.fst rs k : Int)) ∧ w.cell? ⟨gj, m, none⟩ = some (.int .i64 (Rn.lst rs k : Int)) ∧ Rn.fst rs k < n ∧ Rn.lst rs k < n := by
  have hN := h.ll.len
  have hr := h.runs
  have hlv := h.rl.len
  obtain ⟨g, gj, cj, rfl, hg, hc, hrow⟩ := h.ll.at' k hk
  have hp := hr.pos k (by omega)
  obtain ⟨m, hm⟩ : ∃ m, (Rn.rn rs k).length = m + 1 := ⟨(Rn.rn rs k).length - 1, by omega⟩
  have hml : (Rn.rn rs k).length ≤ n := by
    have h1 := Rn.mem_len (Rn.rn_mem (show k < rs.length by omega))
    rw [hr.flat] at h1
    have h2 := List.length_filter_le (Rn.kp lv) (List.range lv.length)
    rw [List.length_range] at h2
    omega
  have hn := h.hn
  obtain ⟨_, _, e1, _, hcr⟩ := hrow.cells hp
  simp only [Option.some.injEq, Addr.mk.injEq, and_true] at e1
  obtain ⟨rfl, rfl⟩ := e1
  have h0 := hcr 0 (by rw [Rn.zs_len]; exact hp)
  have h1 := hcr m (by rw [Rn.zs_len]; omega)
  rw [Nat.zero_add, Rn.zs_at _ _ (by omega)] at h0 h1
  have e2 : (Rn.rn rs k).getD m 0 = Rn.lst rs k := by unfold Rn.lst; rw [hm, Nat.add_sub_cancel]
  rw [e2] at h1
  have k0 := (hr.kept k 0 (by omega) hp).1
  have k1 := (hr.kept k m (by omega) (by omega)).1
  rw [e2] at k1
  rw [hm] at hc hrow
  exact ⟨g, gj, cj, m, rfl, hc, hm, by omega, hrow, h0, h1, by rw [← hlv]; exact k0, by rw [← hlv]; exact k1⟩
theorem row_at {k : IntKind} {W : World} {b n cap : Nat} {zs : List Int} (h : Row k W (some ⟨b, 0, none⟩) n cap zs) {i : Nat} (hi : i < n) : W.cell? ⟨b, i, none⟩ = some (.int k (zs.getD i 0)) := by
  obtain ⟨_, _, e, _, hc⟩ := h.cells (by omega)
  simp only [Option.some.injEq, Addr.mk.injEq, and_true] at e
  obtain ⟨rfl, rfl⟩ := e
  have := hc i (by rw [h.len]; exact hi)
  rw [Nat.zero_add] at this
  exact this
theorem PG.le (h : PG w p b lv mt rs bl bm n ao N cap mp) : N ≤ 2000 := by
  have h1 := Rn.flat_len (rs := rs) (fun r hr e => by
    subst e
    obtain ⟨j, hj, e2⟩ := List.mem_iff_getElem.1 hr
    have := h.runs.pos j hj
    have e3 : Rn.rn rs j = [] := by unfold Rn.rn; simp [List.getD, hj, e2]
    rw [e3] at this
    simp at this)
  rw [h.runs.flat] at h1
  have h2 := List.length_filter_le (Rn.kp lv) (List.range lv.length)
  rw [List.length_range] at h2
  have := h.hn
  have := h.rl.len
  have := h.ll.len
  omega
theorem plast_any (h : PG w p b lv mt rs bl bm n ao N cap mp) {k : Nat} (hk : k < N) :
    Calls Tryz.prog 86 #[.pointer (some ⟨p, 0, none⟩), .int .i64 (k : Int)] w fun e w' => e = .returned (.int .i64 (Rn.lst rs k : Int)) ∧ ∃ q, w' = w.drewN q := by
  obtain ⟨g, gj, cj, m, rfl, c1, e1, hm, hrow, c2, c3, l1, l2⟩ := h.run hk
  have c0 := h.c3
  have em : ((m + 1 : Nat) : Int) - 1 = (m : Int) := by omega
  have hin : (k : Int) < (N : Int) := by omega
  have hN := h.le
  generalize Rn.lst rs k = l at *
  generalize Rn.fst rs k = f at *
  clear h hrow e1
  go_enter Tryz.func86, Tryz.ntmps86
  go_wp2
  go_quiet (fail)
  go_wp2
  go_ret
  exact ⟨rfl, _, rfl⟩
theorem level_any (h : PG w p b lv mt rs bl bm n ao N cap mp) {k : Nat} (hk : k < N) :
    Calls Tryz.prog 70 #[.pointer (some ⟨p, 0, none⟩), .int .i64 (k : Int)] w fun e w' => e = .returned (.int .i64 (Rn.lvl lv rs k)) ∧ ∃ q, w' = w.drewN q := by
  obtain ⟨g, gj, cj, m, rfl, c1, e1, hm, hrow, c2, c3, l1, l2⟩ := h.run hk
  have c0 := h.c3
  have d0 := h.c1
  have d1 := row_at h.rl l1
  have hin : (k : Int) < (N : Int) := by omega
  have hfl : ((Rn.fst rs k : Nat) : Int) < (n : Int) := by omega
  have hN := h.le
  have hnn := h.hn
  unfold Rn.lvl
  generalize Rn.lst rs k = l at *
  generalize lv.getD (Rn.fst rs k) 0 = x at *
  generalize Rn.fst rs k = f at *
  clear h hrow e1
  go_enter Tryz.func70, Tryz.ntmps70
  go_wp2
  go_quiet (fail)
  go_wp2
  go_ret
  exact ⟨rfl, _, rfl⟩
theorem begins_any (h : PG w p b lv mt rs bl bm n ao N cap mp) {k : Nat} (hk : k < N) :
    Calls Tryz.prog 60 #[.pointer (some ⟨p, 0, none⟩), .int .i64 (k : Int)] w fun e w' => e = .returned (.bool (Rn.bg mt rs k)) ∧ w = w' := by
  obtain ⟨g, gj, cj, m, rfl, c1, e1, hm, hrow, c2, c3, l1, l2⟩ := h.run hk
  have c0 := h.c3
  have d0 := h.c2
  have d1 := row_at h.rm l1
  have hin : (k : Int) < (N : Int) := by omega
  have hfl : ((Rn.fst rs k : Nat) : Int) < (n : Int) := by omega
  have hN := h.le
  have hnn := h.hn
  unfold Rn.bg
  generalize Rn.lst rs k = l at *
  generalize mt.getD (Rn.fst rs k) 0 = x at *
  generalize Rn.fst rs k = f at *
  clear h hrow e1
  by_cases hx : x < 0
  · rw [decide_eq_true hx, Bool.true_or]
    go_enter Tryz.func60, Tryz.ntmps60
    go_wp2
    go_ret
    exact ⟨rfl, rfl⟩
  · rw [decide_eq_false hx, Bool.false_or]
    go_enter Tryz.func60, Tryz.ntmps60
    go_wp2
    go_ret
    exact ⟨ret_bool (by simp), rfl⟩
theorem ends_any (h : PG w p b lv mt rs bl bm n ao N cap mp) {k : Nat} (hk : k < N) :
    Calls Tryz.prog 81 #[.pointer (some ⟨p, 0, none⟩), .int .i64 (k : Int)] w fun e w' => e = .returned (.bool (Rn.en mt rs k)) ∧ ∃ q, w' = w.drewN q := by
  have HL := hide (plast_any h hk)
  obtain ⟨g, gj, cj, m, rfl, c1, e1, hm, hrow, c2, c3, l1, l2⟩ := h.run hk
  have d0 := h.c2
  have d1 := row_at h.rm l2
  have hll : ((Rn.lst rs k : Nat) : Int) < (n : Int) := by omega
  have hnn := h.hn
  unfold Rn.en
  generalize mt.getD (Rn.lst rs k) 0 = x at *
  generalize Rn.lst rs k = l at *
  clear h hrow e1 c1 c2 c3
  go_enter Tryz.func81, Tryz.ntmps81
  go_wp2_with fail
  refine HL.out.mono ?_
  rintro e w' ⟨rfl, q, rfl⟩
  have d0' : (w.drewN q).cell? ⟨p, 2, none⟩ = some (.slice (some ⟨bm, 0, none⟩) n n) := d0
  have d1' : (w.drewN q).cell? ⟨bm, l, none⟩ = some (.int .i64 x) := d1
  go_wp2
  go_ret
  exact ⟨ret_bool (by simp), _, rfl⟩
theorem ahead_any (h : PG w p b lv mt rs bl bm n ao N cap mp) {k : Nat} (hk : k < N) :
    Calls Tryz.prog 72 #[.pointer (some ⟨p, 0, none⟩), .int .i64 (k : Int)] w fun e w' => e = .returned (.int .i64 (Rn.ah b lv rs k)) ∧ ∃ q, w' = w.drewN q := by
  have hN := h.le
  have c0 := h.c0
  by_cases h0 : k = 0
  · subst h0
    have ez : Rn.ah b lv rs 0 = b := rfl
    rw [ez]
    clear h
    go_enter Tryz.func72, Tryz.ntmps72
    go_wp2
    go_ret
    exact ⟨rfl, 0, rfl⟩
  · obtain ⟨j, rfl⟩ : ∃ j, k = j + 1 := ⟨k - 1, by omega⟩
    have HL := hide (level_any h (k := j) (by omega))
    have ez : Rn.ah b lv rs (j + 1) = Rn.lvl lv rs j := rfl
    rw [ez]
    generalize Rn.lvl lv rs j = x at *
    have hne : (((j + 1 : Nat) : Int) == 0) = false := beq_false_of_ne (by omega)
    have hne2 : ¬ ((j + 1 : Nat) : Int) = 0 := by omega
    have e1 : ((j + 1 : Nat) : Int) - 1 = (j : Int) := by omega
    clear h
    go_enter Tryz.func72, Tryz.ntmps72
    go_wp2_with fail
    refine HL.out.mono ?_
    rintro e w' ⟨rfl, q, rfl⟩
    go_wp2
    go_ret
    exact ⟨rfl, _, rfl⟩
theorem behind_any (h : PG w p b lv mt rs bl bm n ao N cap mp) {k : Nat} (hk : k < N) :
    Calls Tryz.prog 73 #[.pointer (some ⟨p, 0, none⟩), .int .i64 (k : Int)] w fun e w' => e = .returned (.int .i64 (Rn.bh b lv mt rs k)) ∧ ∃ q, w' = w.drewN q := by
  have hN := h.le
  have c0 := h.c0
  have c3 := h.c3
  have hl := h.ll.len
  have HE := hide (ends_any h hk)
  unfold Rn.bh
  rw [hl]
  by_cases h0 : k = N - 1
  · rw [if_pos h0]
    have e1 : (N : Int) - 1 = (k : Int) := by omega
    clear h
    go_enter Tryz.func73, Tryz.ntmps73
    go_wp2
    go_ret
    exact ⟨rfl, 0, rfl⟩
  · rw [if_neg h0]
    have hne : ¬ (k : Int) = (N : Int) - 1 := by omega
    have hne2 : ((k : Int) == (N : Int) - 1) = false := beq_false_of_ne hne
    have HL := hide (fun q => level_any (h.drewN q) (k := k + 1) (by omega))
    have c0q : ∀ q, (w.drewN q).cell? ⟨p, 0, none⟩ = some (.int .i64 b) := fun q => c0
    cases hen : Rn.en mt rs k with
    | true =>
      rw [hen] at HE
      rw [if_pos rfl]
      clear h hen
      go_enter Tryz.func73, Tryz.ntmps73
      go_wp2_with (go_at_call 81; refine HE.out.mono ?_; rintro e w' ⟨rfl, q, rfl⟩; have c0' := c0q q)
      go_ret
      exact ⟨rfl, _, rfl⟩
    | false =>
      rw [hen] at HE
      rw [if_neg (by decide)]
      generalize Rn.lvl lv rs (k + 1) = x at *
      have e1 : ((k + 1 : Nat) : Int) = (k : Int) + 1 := by omega
      rw [e1] at HL
      clear h hen
      go_enter Tryz.func73, Tryz.ntmps73
      go_wp2_with (first
        | (go_at_call 81; refine HE.out.mono ?_; rintro e w' ⟨rfl, q, rfl⟩; have c0' := c0q q)
        | (go_at_call 70; refine (HL.out _).mono ?_; rintro e w' ⟨rfl, q2, rfl⟩))
      go_ret
      exact ⟨rfl, _, rfl⟩
end
theorem rside_any (x y : Int) (w : World) : Calls Tryz.prog 71 #[.int .i64 x, .int .i64 y] w fun e w' => e = .returned (.int .i64 (Rn.sd x y)) ∧ w = w' := by
  have hrm : ∀ (w' : World) (ts : Array TypeId) (t : TypeId), (Builtin.max_ ts t #[.int .i64 x, .int .i64 y]).run Tryz.prog w' = .ok (.int .i64 (max x y)) w' := by
    intro w' ts t
    rw [run_max_int2]
    congr 2
    split <;> omega
  unfold Rn.sd
  generalize max x y = m at *
  by_cases h : m.tmod 2 = 1
  · rw [if_pos h]
    have hb : (m.tmod 2 == 1) = true := by rw [h]; rfl
    clear h
    go_enter Tryz.func71, Tryz.ntmps71
    go_wp2
    go_ret
    exact ⟨rfl, rfl⟩
  · rw [if_neg h]
    have hb : (m.tmod 2 == 1) = false := beq_false_of_ne h
    clear h
    go_enter Tryz.func71, Tryz.ntmps71
    go_wp2
    go_ret
    exact ⟨rfl, rfl⟩
end Go.Proofs.YtmdmehopefgndaaGreatDoor

/- Chains of runs: plain mathematics. -/
namespace Go.Proofs.YtmdmehopefgndaaGreatDoor.Rn
set_option linter.unusedVariables false
/-- From a run on, as many as c of those that follow one another. -/
def chn (f : Nat → Option Nat) : Nat → Nat → List Nat
  | 0, _ => []
  | c + 1, k => k :: (match f k with | none => [] | some j => chn f c j)
/-- The one behind c of them. -/
def aft (f : Nat → Option Nat) : Nat → Nat → Option Nat
  | 0, k => some k
  | c + 1, k => match f k with | none => none | some j => aft f c j
theorem chn_succ (f : Nat → Option Nat) (c k : Nat) : chn f (c + 1) k = k :: (match f k with | none => [] | some j => chn f c j) := rfl
theorem aft_succ (f : Nat → Option Nat) (c k : Nat) : aft f (c + 1) k = match f k with | none => none | some j => aft f c j := rfl
theorem chn_add (f : Nat → Option Nat) (b : Nat) : ∀ a k, chn f (a + b) k = chn f a k ++ (match aft f a k with | none => [] | some j => chn f b j) := by
  intro a
  induction a with
  | zero => intro k; simp [chn, aft]
  | succ a ih =>
    intro k
    rw [show a + 1 + b = a + b + 1 from by omega, chn_succ, chn_succ, aft_succ]
    cases f k with
    | none => simp
    | some j => simp [ih j]
theorem aft_add (f : Nat → Option Nat) (b : Nat) : ∀ a k, aft f (a + b) k = match aft f a k with | none => none | some j => aft f b j := by
  intro a
  induction a with
  | zero => intro k; simp [aft]
  | succ a ih =>
    intro k
    rw [show a + 1 + b = a + b + 1 from by omega, aft_succ, aft_succ]
    cases f k with
    | none => simp
    | some j => simp [ih j]
theorem chn_ne (f : Nat → Option Nat) (c k : Nat) : chn f (c + 1) k ≠ [] := by rw [chn_succ]; simp
theorem chn_len (f : Nat → Option Nat) : ∀ c k, (chn f c k).length ≤ c := by
  intro c
  induction c with
  | zero => intro k; simp [chn]
  | succ c ih =>
    intro k
    rw [chn_succ]
    cases f k with
    | none => simp
    | some j => simpa using ih j
theorem aft_lt {f : Nat → Option Nat} {N : Nat} (h : ∀ k j, f k = some j → j < N) : ∀ c k j, k < N → aft f c k = some j → j < N := by
  intro c
  induction c with
  | zero => intro k j hk h1; simp [aft] at h1; omega
  | succ c ih =>
    intro k j hk h1
    rw [aft_succ] at h1
    cases hf : f k with
    | none => rw [hf] at h1; simp at h1
    | some i => rw [hf] at h1; exact ih i j (h k i hf) h1
/-- The last one. -/
def ltc (f : Nat → Option Nat) (c k : Nat) : Nat := (chn f c k).getD ((chn f c k).length - 1) 0
theorem last_append (a b : List Nat) (h : b ≠ []) : (a ++ b).getD ((a ++ b).length - 1) 0 = b.getD (b.length - 1) 0 := by
  have := List.length_pos_iff.2 h
  rw [List.length_append, show a.length + b.length - 1 = a.length + (b.length - 1) from by omega]
  simp [List.getD, List.getElem?_append_right]
theorem ltc_none {f : Nat → Option Nat} {a b k : Nat} (h : aft f a k = none) : chn f (a + b) k = chn f a k ∧ aft f (a + b) k = none ∧ ltc f (a + b) k = ltc f a k := by
  have e1 : chn f (a + b) k = chn f a k := by rw [chn_add, h]; simp
  exact ⟨e1, by rw [aft_add, h], by unfold ltc; rw [e1]⟩
theorem ltc_some {f : Nat → Option Nat} {a b k j : Nat} (h : aft f a k = some j) (hb : 0 < b) : chn f (a + b) k = chn f a k ++ chn f b j ∧ aft f (a + b) k = aft f b j ∧ ltc f (a + b) k = ltc f b j := by
  have e1 : chn f (a + b) k = chn f a k ++ chn f b j := by rw [chn_add, h]
  obtain ⟨c, rfl⟩ : ∃ c, b = c + 1 := ⟨b - 1, by omega⟩
  exact ⟨e1, by rw [aft_add, h], by unfold ltc; rw [e1]; exact last_append _ _ (chn_ne f c j)⟩
/-- The places of runs. -/
def plc (rs : List (List Nat)) (l : List Nat) : List Nat := l.flatMap (rn rs)
theorem plc_append (rs : List (List Nat)) (a b : List Nat) : plc rs (a ++ b) = plc rs a ++ plc rs b := by simp [plc]
theorem plc_one (rs : List (List Nat)) (k : Nat) : plc rs [k] = rn rs k := by simp [plc]
theorem plc_len {rs : List (List Nat)} {M : Nat} (h : ∀ j, (rn rs j).length ≤ M) (l : List Nat) : (plc rs l).length ≤ l.length * M := by
  induction l with
  | nil => simp [plc]
  | cons a t ih =>
    rw [show a :: t = [a] ++ t from rfl, plc_append, plc_one, List.length_append, List.length_append, List.length_singleton, Nat.add_mul, Nat.one_mul]
    have := h a
    omega
end Go.Proofs.YtmdmehopefgndaaGreatDoor.Rn

/- follower; the closure that grows a sequence. -/
namespace Go.Proofs.YtmdmehopefgndaaGreatDoor
open Go.RowKit Go.Maps
set_option linter.unusedVariables false
set_option maxHeartbeats 1000000
set_option maxRecDepth 100000
section
variable {w : World} {p : Nat} {b : Int} {lv mt : List Int} {rs : List (List Nat)} {bl bm n : Nat} {ao : Option Addr} {N cap mp : Nat}
theorem PG.mtwf (h : PG w p b lv mt rs bl bm n ao N cap mp) (hm : ∀ i, i < n → -1 ≤ mt.getD i 0 ∧ mt.getD i 0 ≤ (n : Int)) {k : Nat} (hk : k < N) : (Lit.int .i64 (mt.getD (Rn.lst rs k) 0)).wf = true := by
  obtain ⟨g, gj, cj, m, rfl, c1, e1, hml, hrow, c2, c3, l1, l2⟩ := h.run hk
  have := hm _ l2
  have := h.hn
  exact WalkArith.wf_i64 (by omega)
theorem follower_any (h : PG w p b lv mt rs bl bm n ao N cap mp) (hmr : ∀ i, i < n → -1 ≤ mt.getD i 0 ∧ mt.getD i 0 ≤ (n : Int)) {k : Nat} (hk : k < N) :
    Calls Tryz.prog 80 #[.pointer (some ⟨p, 0, none⟩), .int .i64 (k : Int)] w fun e w' => e = .returned (.int .i64 (Rn.oi (Rn.fo mt rs k))) ∧ ∃ q, w' = w.drewN q := by
  have HE := hide (ends_any h hk)
  have hl := h.ll.len
  unfold Rn.fo
  rw [hl]
  have HG := hide h
  cases hen : Rn.en mt rs k with
  | false =>
    rw [hen] at HE
    rw [if_neg (by decide)]
    clear h hen
    go_enter Tryz.func80, Tryz.ntmps80
    go_wp2_with (go_at_call 81; refine HE.out.mono ?_; rintro e w' ⟨rfl, q, rfl⟩)
    go_ret
    exact ⟨rfl, _, rfl⟩
  | true =>
    rw [hen] at HE
    rw [if_pos rfl]
    obtain ⟨fo, hfo⟩ : ∃ fo, Rn.fi rs N (mt.getD (Rn.lst rs k) 0) = fo := ⟨_, rfl⟩
    rw [hfo]
    have HF := hide hfo
    clear h hen hfo
    go_enter Tryz.func80, Tryz.ntmps80
    go_wp2_with fail
    refine HE.out.mono ?_
    rintro e W ⟨rfl, q, hW⟩
    have h : PG W p b lv mt rs bl bm n ao N cap mp := by rw [hW]; exact HG.out.drewN q
    have HL := hide (fun q => plast_any (h.drewN q) hk)
    have hwf := h.mtwf hmr hk
    have HK := hide (fun q => (show (Instr.lookup 115 (.map (some mp)) (.int .i64 (mt.getD (Rn.lst rs k) 0)) true).run Tryz.prog (W.drewN q) = .ok (.tuple #[.int .i64 (((Rn.fi rs N (mt.getD (Rn.lst rs k) 0)).getD 0 : Nat) : Int), .bool (Rn.fi rs N (mt.getD (Rn.lst rs k) 0)).isSome]) (W.drewN q) from by
      obtain ⟨D, h1, h2⟩ := (h.drewN q).mo
      exact h2.look h1 _ hwf))
    obtain ⟨g, gj, cj, m, rfl, c1, e1, hm, hrow, c2, c3, l1, l2⟩ := h.run hk
    have d0 := h.c2
    have d1 := row_at h.rm l2
    have d4 := h.c4
    have hnn := h.hn
    have hll : ((Rn.lst rs k : Nat) : Int) < (n : Int) := by omega
    have hf0 := HF.out
    generalize mt.getD (Rn.lst rs k) 0 = x at *
    generalize Rn.lst rs k = l at *
    have HW := hide hW
    clear HF
    cases fo with
    | none =>
      have hkq : ∀ q, (Instr.lookup 115 (.map (some mp)) (.int .i64 x) true).run Tryz.prog (W.drewN q) = .ok (.tuple #[.int .i64 0, .bool false]) (W.drewN q) := fun q => by have := HK.out q; rw [hf0] at this; exact this
      clear h hrow HK hf0 hW HG HE c1 c2 c3
      go_wp2_with fail
      go_quiet (first | (go_at_call 86; exact Calls.quiet_of (HL.out _)))
      go_wp2
      go_ret
      exact ⟨rfl, _, by rw [HW.out, World.drewN_drewN]⟩
    | some j =>
      have hkq : ∀ q, (Instr.lookup 115 (.map (some mp)) (.int .i64 x) true).run Tryz.prog (W.drewN q) = .ok (.tuple #[.int .i64 (j : Int), .bool true]) (W.drewN q) := fun q => by have := HK.out q; rw [hf0] at this; exact this
      clear h hrow HK hf0 hW HG HE c1 c2 c3
      go_wp2_with fail
      go_quiet (first | (go_at_call 86; exact Calls.quiet_of (HL.out _)))
      go_wp2
      go_ret
      exact ⟨rfl, _, by rw [HW.out, World.drewN_drewN]⟩
end
end Go.Proofs.YtmdmehopefgndaaGreatDoor
