/- Contracts of utf8.ValidRune, the closure of Class, sort.Search, Class. -/
import Derived.Test.YtchpdokjalbpnaaDoorRows
import Derived.Test.YtchpdokjalbpnaaDoorUc
import Derived.Test.YtchpdokjalbpnaaDoorArgs
import Derived.Test.YtchpdokjalbpnaaDoorTab
import Derived.WalkKit
import Derived.WalkSpells
import Derived.WalkLawsBesides
import Derived.Outline
import Derived.Deep.RegionHeld3
namespace Go.Proofs.YtchpdokjalbpnaaDoor
open Go.RowKit
set_option linter.unusedVariables false
set_option maxHeartbeats 1000000
set_option maxRecDepth 100000
theorem valid_any (r : Int) (w : World) (hr : (Lit.int .i32 r).wf = true) :
    Calls Tryd.prog 36 #[.int .i32 r] w fun e w' => e = .returned (.bool (Ucd.valid r)) ∧ w = w' := by
  have hv : Ucd.valid r = Ucd.valid r := rfl
  clear hr
  unfold Ucd.valid at hv
  by_cases h0 : 0 ≤ r
  · by_cases h1 : r < 55296
    · go_enter Tryd.func36, Tryd.ntmps36
      go_wp2
      go_ret
      exact ⟨ret_bool (by simp [Ucd.valid]; omega), rfl⟩
    · by_cases h2 : 57343 < r
      · by_cases h3 : r ≤ 1114111
        · go_enter Tryd.func36, Tryd.ntmps36
          go_wp2
          go_ret
          exact ⟨ret_bool (by simp [Ucd.valid]; omega), rfl⟩
        · go_enter Tryd.func36, Tryd.ntmps36
          go_wp2
          go_ret
          exact ⟨ret_bool (by simp [Ucd.valid]; omega), rfl⟩
      · go_enter Tryd.func36, Tryd.ntmps36
        go_wp2
        go_ret
        exact ⟨ret_bool (by simp [Ucd.valid]; omega), rfl⟩
  · by_cases h2 : 57343 < r
    · omega
    · go_enter Tryd.func36, Tryd.ntmps36
      go_wp2
      go_ret
      exact ⟨ret_bool (by simp [Ucd.valid]; omega), rfl⟩
theorem closure_any (r h : Int) (i : Nat) (bR bT : Nat) (w : World) (hi : i < 147) (hR : w.cell? ⟨bR, 0, none⟩ = some (.int .i32 r)) (hT : w.cell? ⟨bT, i * 3 + 1, none⟩ = some (.int .i32 h)) :
    Calls Tryd.prog 39 #[.int .i64 i, .pointer (some ⟨bR, 0, none⟩), .pointer (some ⟨bT, 0, none⟩)] w fun e w' => e = .returned (.bool (decide (r ≤ h))) ∧ Below w.heap.size w w' := by
  go_enter Tryd.func39, Tryd.ntmps39
  go_wp2_with fail
  go_region
  all_goals (try go_wp2)
  all_goals go_ret
  all_goals exact ⟨rfl, (Below.refl _ _).drew⟩
/-- The table lies in a block. -/
def TabAt (w : World) (b : Nat) : Prop := ∀ i, i < 441 → w.cell? ⟨b, i, none⟩ = tableCells[i]?
theorem TabAt.at {w : World} {b : Nat} (h : TabAt w b) {i : Nat} (hi : i < 147) :
    w.cell? ⟨b, i * 3, none⟩ = some (.int .i32 (Ucd.lo Ucd.rows i)) ∧ w.cell? ⟨b, i * 3 + 1, none⟩ = some (.int .i32 (Ucd.hi Ucd.rows i)) ∧ w.cell? ⟨b, i * 3 + 2, none⟩ = some (.int .i64 (Ucd.cl Ucd.rows i)) := by
  have e : ∀ j, j < 3 → w.cell? ⟨b, i * 3 + j, none⟩ = (rowCells (Ucd.rows.getD i (0, 0, 0)))[j]? := fun j hj => by
    rw [h (i * 3 + j) (by omega), tableCells, List.getElem?_toArray, Ucd.flat_at rowCells (fun _ => rfl) Ucd.rows i j (by rw [Ucd.rows_len]; exact hi) hj]
  exact ⟨e 0 (by omega), e 1 (by omega), e 2 (by omega)⟩
theorem TabAt.mono {w w' : World} {b B : Nat} (h : TabAt w b) (hb : Below B w w') (hB : b < B) : TabAt w' b := fun i hi => (hb.cell (p := ⟨b, i, none⟩) hB).trans (h i hi)
theorem tabAt_new (w : World) : TabAt (w.alloc (.cells tableCells 70)) w.heap.size := fun i hi => by
  unfold World.cell?
  rw [heap_alloc_last]
  rfl
theorem search_any (r : Int) (bR bT : Nat) (w : World) (hbR : bR < w.heap.size) (hbT : bT < w.heap.size) (hR : w.cell? ⟨bR, 0, none⟩ = some (.int .i32 r)) (hT : TabAt w bT) :
    Calls Tryd.prog 38 #[.int .i64 147, .func (.func 39) #[] #[.pointer (some ⟨bR, 0, none⟩), .pointer (some ⟨bT, 0, none⟩)]] w fun e w' =>
      ∃ k : Nat, e = .returned (.int .i64 k) ∧ Below w.heap.size w w' ∧ k ≤ 147 ∧ (∀ t, t < k → Ucd.hi Ucd.rows t < r) ∧ (∀ t, k ≤ t → t < 147 → r ≤ Ucd.hi Ucd.rows t) := by
  have HF : Hid (∀ w', Below w.heap.size w w' → ∀ i : Nat, i < 147 → Calls Tryd.prog 39 #[.int .i64 i, .pointer (some ⟨bR, 0, none⟩), .pointer (some ⟨bT, 0, none⟩)] w' fun e w'' => e = .returned (.bool (decide (r ≤ Ucd.hi Ucd.rows i))) ∧ Below w.heap.size w w'') :=
    hide fun w' hb i hi => (closure_any r _ i bR bT w' hi ((hb.cell (p := ⟨bR, 0, none⟩) hbR).trans hR) ((hT.mono hb hbT).at hi).2.1).mono fun e w'' ⟨h1, h2⟩ => ⟨h1, hb.trans (h2.mono hb.size)⟩
  clear hR hT hbR hbT
  go_enter Tryd.func38, Tryd.ntmps38
  go_wp2_with fail
  go_loopw [5, 6] (fun s5 s6 wr => ∃ (lo hi : Nat), s5 = .int .i64 lo ∧ s6 = .int .i64 hi ∧ lo ≤ hi ∧ hi ≤ 147 ∧ Below w.heap.size w wr ∧ Hid ((∀ t, t < lo → Ucd.hi Ucd.rows t < r) ∧ (∀ t, hi ≤ t → t < 147 → r ≤ Ucd.hi Ucd.rows t))) (fun s5 s6 _ => (intOf s6 - intOf s5).toNat)
  case atStart => exact ⟨0, 147, rfl, rfl, by omega, by omega, Below.refl _ _, hide ⟨fun t ht => by omega, fun t h1 h2 => by omega⟩⟩
  case round =>
    obtain ⟨lo, hi, rfl, rfl, hlh, hin, hb, I⟩ := hrel
    by_cases hlt : lo < hi
    · have hc := HF.out wr hb ((lo + hi) / 2) (by omega)
      rw [show (((lo + hi) / 2 : Nat) : Int) = ((lo : Int) + (hi : Int)) / 2 by omega] at hc
      by_cases hp : r ≤ Ucd.hi Ucd.rows ((lo + hi) / 2)
      · rw [decide_eq_true hp] at hc
        have HP := hide hp
        clear hp
        go_wp2_with (go_at_call 39; refine hc.mono ?_; rintro e w' ⟨rfl, hb'⟩)
        go_roundw
        case rel => exact ⟨lo, (lo + hi) / 2, rfl, by congr 1, by omega, by omega, hb', hide ⟨I.out.1, fun t h1 h2 => Int.le_trans HP.out (Ucd.hi_rows h1 h2)⟩⟩
        case measure => simp [intOf]; omega
      · rw [decide_eq_false hp] at hc
        have HP := hide hp
        clear hp
        go_wp2_with (go_at_call 39; refine hc.mono ?_; rintro e w' ⟨rfl, hb'⟩)
        go_roundw
        case rel => exact ⟨(lo + hi) / 2 + 1, hi, by congr 1, rfl, by omega, by omega, hb', hide ⟨fun t h1 => by have := Ucd.hi_rows (a := t) (b := (lo + hi) / 2) (by omega) (by omega); have := HP.out; omega, I.out.2⟩⟩
        case measure => simp [intOf]; omega
    · obtain rfl : lo = hi := by omega
      go_wp2
      go_ret
      exact ⟨lo, rfl, hb, hin, I.out.1, I.out.2⟩
/-- A whole value goes into the block that was made last. -/
theorem wpList_store_new {P : Program} {ops : Array Oper} {rest : List Oper} {o : Oper} {a : Act} {Q : Exit → Act → World → Prop} (w : World) (hgd : o.guard = none) (ty : TypeId) (x y : Operand) (ho : o.op = .store ty x y)
    (hd : o.dst = none) (c c' : Array Value) (hx : a.eval x = .pointer (some ⟨w.heap.size, 0, none⟩)) (hy : a.eval y = .agg c') (hi : (P.info? ty).map (·.size) = some c'.size)
    (hold : c.size = c'.size) (h1 : c'.all (·.oneCell') = true)
    (h : wpList P ops Q rest a (w.alloc (.cells c' ty))) : wpList P ops Q (o :: rest) a (w.alloc (.cells c ty)) :=
  wpList_store_rowTo hgd ty x y ho hd w.heap.size c' hx hy ty c (heap_alloc_last w _) hi hold h1 (by rw [World.setRow_alloc_new]; exact h)
theorem class_any (r : Int) (w : World) (hr : (Lit.int .i32 r).wf = true) :
    Calls Tryd.prog 34 #[.int .i32 r] w fun e w' => e = .returned (.int .i64 (Ucd.cls r)) ∧ Below w.heap.size w w' := by
  have hz := (zero_of_info tableInfo).1
  have HV := hide (valid_any r (w.alloc (.cells #[.int .i32 r] 21)) hr)
  have hcR : (w.alloc (.cells #[.int .i32 r] 21)).cell? ⟨w.heap.size, 0, none⟩ = some (.int .i32 r) := by rw [World.cell?_alloc_at _ _ _ _ (by simp)]; rfl
  have HB := hide (show Below w.heap.size w (w.alloc (.cells #[.int .i32 r] 21)) from (Below.refl _ _).alloc (Nat.le_refl _) _)
  have HS := hide (show (w.alloc (.cells #[.int .i32 r] 21)).heap.size = w.heap.size + 1 from by simp)
  have hc := hcR
  clear hr
  cases hv : Ucd.valid r
  · have HC := hide (Ucd.cls_not hv)
    rw [hv] at HV
    clear hv
    go_enter Tryd.func34, Tryd.ntmps34
    go_wp2_with fail
    refine HV.out.mono ?_
    rintro e w1 ⟨rfl, rfl⟩
    go_wp2
    go_ret
    exact ⟨ret_int HC.out.symm, HB.out⟩
  · have HVV := hide hv
    rw [hv] at HV
    clear hv
    go_enter Tryd.func34, Tryd.ntmps34
    go_wp2_with fail
    refine HV.out.mono ?_
    rintro e w1 ⟨rfl, rfl⟩
    generalize w.alloc (.cells #[.int .i32 r] 21) = W at *
    go_wp2_with fail
    refine (table_any W).mono ?_
    rintro e w2 ⟨rfl, hb2⟩
    go_wp2_with (refine wpList_store_new w2 rfl 70 _ _ rfl rfl zeroCells tableCells rfl rfl tableInfo' (by rw [zeroSize, tableSize]) tableOne ?_)
    have hbw : Below w.heap.size w (w2.alloc (.cells tableCells 70)) := (HB.out.trans (hb2.mono (by have := HS.out; omega))).alloc (by have := HS.out; have := hb2.size; omega) _
    have hlt : w.heap.size < w2.heap.size := by have := HS.out; have := hb2.size; omega
    have hR : (w2.alloc (.cells tableCells 70)).cell? ⟨w.heap.size, 0, none⟩ = some (.int .i32 r) := by
      rw [World.cell?_alloc_past _ _ _ (by exact hlt)]
      exact (hb2.cell (p := ⟨w.heap.size, 0, none⟩) (by have := HS.out; show w.heap.size < _; omega)).trans hc
    have hT := tabAt_new w2
    have hs3 : (w2.alloc (.cells tableCells 70)).heap.size = w2.heap.size + 1 := by simp
    clear hb2 hc hcR HV HB HS hz
    generalize hb : w2.heap.size = b at *
    clear hb
    generalize w2.alloc (.cells tableCells 70) = W3 at *
    refine (search_any r w.heap.size b W3 (by omega) (by omega) hR hT).mono ?_
    rintro e w4 ⟨k, rfl, hb4, hk, h1, h2⟩
    have HC := hide (Ucd.cls_at HVV.out k hk h1 h2)
    have HB := hide (hbw.trans (hb4.mono (by omega)))
    have hR4 := (hb4.cell (p := ⟨w.heap.size, 0, none⟩) (by show w.heap.size < _; omega)).trans hR
    have hT4 := hT.mono hb4 (by omega)
    clear h1 h2 hT hR hbw hb4
    by_cases hkk : k < 147
    · obtain ⟨c0, c1, c2⟩ := hT4.at hkk
      have hkI : (k : Int) < 147 := by omega
      clear hT4
      generalize Ucd.lo Ucd.rows k = L at *
      generalize Ucd.cl Ucd.rows k = C at *
      by_cases hl : L ≤ r
      · rw [if_pos ⟨hkk, hl⟩] at HC
        go_wp2_with fail
        go_region
        all_goals (try go_wp2)
        all_goals go_ret
        all_goals exact ⟨ret_int HC.out.symm, HB.out.drew⟩
      · rw [if_neg (fun h => hl h.2)] at HC
        go_wp2_with fail
        go_region
        all_goals (try go_wp2)
        all_goals go_ret
        all_goals exact ⟨ret_int HC.out.symm, HB.out.drew⟩
    · obtain rfl : k = 147 := by omega
      rw [if_neg (by omega)] at HC
      clear hT4
      go_wp2_with fail
      go_region
      all_goals (try go_wp2)
      all_goals go_ret
      all_goals exact ⟨ret_int HC.out.symm, HB.out.drew⟩
end Go.Proofs.YtchpdokjalbpnaaDoor
