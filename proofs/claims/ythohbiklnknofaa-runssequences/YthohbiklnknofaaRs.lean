/- What Resolve keeps on its way; isParagraph. -/
import Derived.Test.YthohbiklnknofaaMe
namespace Go.Proofs.Ythohbiklnknofaa
open Go.RowKit
set_option linter.unusedVariables false
set_option maxHeartbeats 1000000
set_option maxRecDepth 100000
theorem isPara_any (ao : Option Addr) (n cap : Nat) (c : List Int) (w : World) (h : Row .i64 w ao n cap c) (hn : n * 8 ≤ 140737488351232) (F : Bool) (hF : F = true ↔ Ex.Formed c) :
    Calls Try.prog 28 #[.slice ao n cap] w fun e w' => e = .returned (.bool F) ∧ w = w' := by
  have H := hide h
  have HL := hide h.len
  have HF := hide hF
  have hn2 : n ≤ 17592186044416 := by omega
  clear h hn hF
  go_enter Try.func28, Try.ntmps28
  go_wp2
  go_loopw [7] (fun s7 wr => ∃ k : Nat, k ≤ n ∧ s7 = .int .i64 (k : Int) ∧ Hid (∀ i, i < k → 1 ≤ c.getD i 0 ∧ c.getD i 0 ≤ 23 ∧ (c.getD i 0 = 11 → i + 1 = n)) ∧ w = wr) (fun s7 _ => n - (intOf s7).toNat)
  case atStart => exact ⟨0, Nat.zero_le _, rfl, hide (fun i hi => by omega), rfl⟩
  case round =>
    obtain ⟨k, hk, rfl, hall, rfl⟩ := hrel
    by_cases hlt : k < n
    · obtain ⟨b, off, rfl, hbl, hc⟩ := H.out.cells (by omega)
      have ck : w.cell? ⟨b, off + k, none⟩ = some (.int .i64 (c.getD k 0)) := hc k (by rw [HL.out]; exact hlt)
      have hin : (k : Int) < (n : Int) := by omega
      have HNO := hide (fun (hbad : ¬ (1 ≤ c.getD k 0 ∧ c.getD k 0 ≤ 23 ∧ (c.getD k 0 = 11 → k + 1 = n))) => (show F = false from by
        cases hf : F with
        | false => rfl
        | true =>
          have h1 := HF.out.1 hf k (by rw [HL.out]; exact hlt)
          rw [HL.out] at h1
          exact absurd h1 hbad))
      have HYES := hide (fun (hgood : 1 ≤ c.getD k 0 ∧ c.getD k 0 ≤ 23 ∧ (c.getD k 0 = 11 → k + 1 = n)) => (show ∀ i, i < k + 1 → 1 ≤ c.getD i 0 ∧ c.getD i 0 ≤ 23 ∧ (c.getD i 0 = 11 → i + 1 = n) from fun i hi => by
        by_cases hik : i = k
        · subst hik; exact hgood
        · exact hall.out i (by omega)))
      generalize c.getD k 0 = x at *
      clear hc hall
      by_cases h1 : x < 1
      · have HE := hide (HNO.out (fun h => by omega))
        clear HNO HYES
        go_wp2
        go_ret
        exact ⟨ret_bool HE.out.symm, rfl⟩
      · by_cases h2 : 23 < x
        · have HE := hide (HNO.out (fun h => by omega))
          clear HNO HYES
          go_wp2
          go_ret
          exact ⟨ret_bool HE.out.symm, rfl⟩
        · by_cases h3 : x = 11
          · by_cases h4 : (k : Int) < (n : Int) - 1
            · have HE := hide (HNO.out (fun h => by have := h.2.2 h3; omega))
              clear HNO HYES
              go_wp2
              go_ret
              exact ⟨ret_bool HE.out.symm, rfl⟩
            · have HE := hide (HYES.out ⟨by omega, by omega, fun _ => by omega⟩)
              clear HNO HYES
              go_wp2
              go_roundw
              case rel => exact ⟨k + 1, by omega, by go_num, HE, trivial⟩
              case measure => simp [intOf]; omega
          · have HE := hide (HYES.out ⟨by omega, by omega, fun h => absurd h h3⟩)
            have h3' : (x == 11) = false := beq_false_of_ne h3
            clear HNO HYES
            go_wp2
            go_roundw
            case rel => exact ⟨k + 1, by omega, by go_num, HE, trivial⟩
            case measure => simp [intOf]; omega
    · obtain rfl : k = n := by omega
      have hne : ¬ ((k : Int) < (k : Int)) := by omega
      have HE := hide (show F = true from HF.out.2 (fun i hi => by rw [HL.out] at hi ⊢; exact hall.out i hi))
      clear hall
      go_wp2
      go_ret
      exact ⟨ret_bool HE.out.symm, rfl⟩
theorem made_ints (n : Nat) (hn : n * 8 ≤ 140737488351232) : ∃ cur : Array Value, cur.toList = (List.replicate n (0 : Int)).map (Value.int .i64) ∧ ∀ W : World, (Instr.makeSlice 22 (.int .i64 (n : Int)) (.int .i64 (n : Int))).run Try.prog W = .ok (.slice (some ⟨W.heap.size, 0, none⟩) n n) (W.alloc (.cells cur 3)) := by
  obtain ⟨ii, hii, hy0, hy1, hy2⟩ := info_parts infoInt
  refine ⟨madeCells #[.int .i64 0] n, by simp [toList_madeCells_one], fun W => ?_⟩
  have h := run_make (P := Try.prog) W 22 3 ii _ Try.underlying22 hii hy0 .i64 .i64 (n : Int) (n : Int) (by omega) (Int.le_refl _) (by rw [hy2]; omega) (by omega)
  rw [h, hy1]
  simp [Value.cells]
theorem owns_block {w : World} {base g n : Nat} {cur : Array Value} {zs : List Int} (hg : w.heap[g]? = some (.cells cur 3 (0, 0))) (hl : cur.toList = zs.map (Value.int .i64)) (hn : zs.length = n) (hm : n ≤ maxLen) (hb : base ≤ g) :
    w.ownsRow base 3 1 (.slice (some ⟨g, 0, none⟩) n n) n (zs.map (Value.int .i64)) := by
  have hs : cur.size = n := by rw [← Array.length_toList, hl, List.length_map, hn]
  refine ⟨by rw [List.length_map, hn, Nat.mul_one], .inr ⟨g, n, cur, rfl, hb, hg, Nat.le_refl _, hm, by rw [hs, Nat.mul_one], ?_⟩⟩
  rw [Nat.mul_one, hl, List.take_of_length_le (by rw [List.length_map, hn]; exact Nat.le_refl _)]
theorem row_owned {w : World} {base n cap g : Nat} {zs : List Int} (h : w.ownsRow base 3 1 (.slice (some ⟨g, 0, none⟩) n cap) n (zs.map (Value.int .i64))) : Row .i64 w (some ⟨g, 0, none⟩) n cap zs := by
  obtain ⟨ao, c, e, hr⟩ := row_of_owns h
  simp only [Value.slice.injEq] at e
  obtain ⟨rfl, _, rfl⟩ := e
  exact hr
/-- The rows of levels and types, and Match's. -/
structure RM (w : World) (B bl bt mb n : Nat) (M L T : List Int) (wr : World) : Prop where
  ol : wr.ownsRow w.heap.size 3 1 (.slice (some ⟨bl, 0, none⟩) n n) n (L.map (Value.int .i64))
  ot : wr.ownsRow w.heap.size 3 1 (.slice (some ⟨bt, 0, none⟩) n n) n (T.map (Value.int .i64))
  om : wr.ownsRow w.heap.size 3 1 (.slice (some ⟨mb, 0, none⟩) n n) n (M.map (Value.int .i64))
  lt : bl < B ∧ bt < B ∧ mb < B
  ne : ¬ bl = bt ∧ ¬ bl = mb ∧ ¬ bt = mb
  le : w.heap.size ≤ B
  bel : Below w.heap.size w wr
theorem owns_other {w : World} {base e n cap g g' j : Nat} {xs : List Value} {v : Value} (h : w.ownsRow base e 1 (.slice (some ⟨g, 0, none⟩) n cap) n xs) (hne : ¬ g = g') : (w.setCell ⟨g', j, none⟩ v).ownsRow base e 1 (.slice (some ⟨g, 0, none⟩) n cap) n xs := by
  refine ⟨h.1, ?_⟩
  rcases h.2 with ⟨h0, _⟩ | ⟨g2, cap2, cur, hv, hbs, hg, rest⟩
  · cases h0
  · cases hv
    refine .inr ⟨g, cap, cur, rfl, hbs, ?_, rest⟩
    rw [← hg]
    have hne2 : ¬ g' = g := fun h => hne h.symm
    unfold World.setCell
    simp [Array.getElem?_modify, hne2]
section
variable {w : World} {B bl bt mb n : Nat} {M L T : List Int} {wr : World}
theorem RM.keep (h : RM w B bl bt mb n M L T wr) {w2 : World} (hb : Below B wr w2) : RM w B bl bt mb n M L T w2 :=
  ⟨owns_keep h.ol hb h.lt.1, owns_keep h.ot hb h.lt.2.1, owns_keep h.om hb h.lt.2.2, h.lt, h.ne, h.le, h.bel.trans (hb.mono h.le)⟩
theorem RM.set (h : RM w B bl bt mb n M L T wr) (k : Nat) (x y : Int) : RM w B bl bt mb n M (L.set k x) (T.set k y) ((wr.setCell ⟨bl, k, none⟩ (.int .i64 x)).setCell ⟨bt, k, none⟩ (.int .i64 y)) := by
  have hn := h.ne
  refine ⟨owns_other (owns_set h.ol k x) hn.1, owns_set (owns_other h.ot (fun h => hn.1 h.symm)) k y, owns_other (owns_other h.om (fun h => hn.2.1 h.symm)) (fun h => hn.2.2 h.symm), h.lt, h.ne, h.le, ?_⟩
  exact (h.bel.setCell (p := ⟨bl, k, none⟩) (h.ol.lt bl rfl).1 _).setCell (p := ⟨bt, k, none⟩) (h.ot.lt bt rfl).1 _
theorem RM.cl (h : RM w B bl bt mb n M L T wr) {k : Nat} (hk : k < n) : wr.cell? ⟨bl, k, none⟩ = some (.int .i64 (L.getD k 0)) ∧ wr.frozen? ⟨bl, k, none⟩ = false := ⟨owns_cell h.ol k hk, h.ol.frozenAt k⟩
theorem RM.ct (h : RM w B bl bt mb n M L T wr) {k : Nat} (hk : k < n) : wr.cell? ⟨bt, k, none⟩ = some (.int .i64 (T.getD k 0)) ∧ wr.frozen? ⟨bt, k, none⟩ = false := ⟨owns_cell h.ot k hk, h.ot.frozenAt k⟩
theorem RM.cm (h : RM w B bl bt mb n M L T wr) {k : Nat} (hk : k < n) : wr.cell? ⟨mb, k, none⟩ = some (.int .i64 (M.getD k 0)) := owns_cell h.om k hk
end
/-- What is kept behind k rounds. -/
structure RV (w : World) (B p bl bt mb n : Nat) (b : Int) (c : List Int) (k : Nat) (wr : World) : Prop where
  rm : RM w B bl bt mb n (Iso.MT c) (Ex.PL (Ex.lev b (Ex.s0 b) c) n k) (Ex.PL (Ex.typ (Ex.s0 b) c) n k) wr
  sa : ∃ g cap, SA B wr p (Ex.at' (Ex.s0 b) c k) g cap
theorem RV.next {w : World} {B p bl bt mb n : Nat} {b : Int} {c : List Int} {k : Nat} {wr wf : World} {S : Ex.St}
    (hm : RM w B bl bt mb n (Iso.MT c) ((Ex.PL (Ex.lev b (Ex.s0 b) c) n k).set k (Ex.tl b S (c.getD k 0))) ((Ex.PL (Ex.typ (Ex.s0 b) c) n k).set k (Ex.ty S (c.getD k 0))) wr)
    (hS : Ex.mid (Ex.at' (Ex.s0 b) c k) (c.getD k 0) = S) (hb : Below B wr wf) (hs : ∃ g cap, SA B wf p (Ex.at' (Ex.s0 b) c (k + 1)) g cap) : RV w B p bl bt mb n b c (k + 1) wf := by
  subst hS
  have h := hm.keep hb
  refine ⟨?_, hs⟩
  rw [Ex.PL_set, Ex.PL_set]
  exact h
end Go.Proofs.Ythohbiklnknofaa
