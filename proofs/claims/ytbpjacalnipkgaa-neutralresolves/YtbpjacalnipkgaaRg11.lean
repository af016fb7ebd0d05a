/- The document's answer (colophonref11: Levels). -/
import Derived.Test.YtbpjacalnipkgaaRf11
namespace Go.Proofs.Ytbpjacalnipkgaa
open Go.RowKit
set_option linter.unusedVariables false
set_option maxHeartbeats 1000000
set_option maxRecDepth 100000
theorem rlevels_bad (ao : Option Addr) (n cap : Nat) (lv : Int) (w : World) (hb : ¬ Ne.Lev lv) :
    Calls Try.prog 14 #[.slice ao n cap, .int .i64 lv] w fun e w' => e = .returned (.tuple #[.slice none 0 0, .int .i64 2]) ∧ w = w' := by
  have hc : (lv < 0) ∨ (¬ lv < 0 ∧ 126 < lv) := by unfold Ne.Lev at hb; omega
  clear hb
  rcases hc with h1 | ⟨h1, h2⟩
  all_goals
    go_enter Try.func14, Try.ntmps14
    go_wp2
    go_ret2
    exact ⟨rfl, rfl⟩
namespace Ne
def LT (t : List Int) (lv : Int) (k : Nat) : List Int := (List.range k).map fun i => lv1 lv (t.getD i 0)
theorem LT_succ (t : List Int) (lv : Int) (k : Nat) : LT t lv (k + 1) = LT t lv k ++ [lv1 lv (t.getD k 0)] := by simp [LT, List.range_succ]
end Ne
theorem rlevels_go (ao : Option Addr) (n cap : Nat) (lv : Int) (t : List Int) (w : World) (h : Row .i64 w ao n cap t) (hn : n * 8 ≤ 140737488351232) (hg : Ne.Lev lv) (L : List Int) (E : Int) (hA : (¬ Ne.Sided t ∧ L = [] ∧ E = 50) ∨ (Ne.Sided t ∧ L = Ne.LS t lv ∧ E = 0)) :
    Calls Try.prog 14 #[.slice ao n cap, .int .i64 lv] w fun e w' => ∃ a1 c1, e = .returned (.tuple #[.slice a1 L.length c1, .int .i64 E]) ∧ Row .i64 w' a1 L.length c1 L ∧ KO w w' := by
  obtain ⟨ii, hii, hy0, hy1, hy2⟩ := info_parts infoInt
  have HII : Hid (Try.prog.info? 3 = some ii) := hii
  have HY0 := hide hy0
  have HY1 := hide hy1
  have HY2 := hide hy2
  have H := hide h
  have HLEN := hide h.len
  have HA := hide hA
  have h1 : ¬ lv < 0 := by have := hg.1; omega
  have h2 : ¬ 126 < lv := by have := hg.2; omega
  have htm : lv.tmod 2 = lv % 2 := Int.tmod_eq_emod_of_nonneg hg.1
  clear h hA hg hii hy0 hy1 hy2
  go_enter Try.func14, Try.ntmps14
  go_wp2
  obtain ⟨W0, hW0⟩ : ∃ W0, ((w.alloc (Obj.cells #[Value.int IntKind.i64 0, Value.int IntKind.i64 0, Value.int IntKind.i64 1, Value.int IntKind.i64 0, Value.int IntKind.i64 2, Value.int IntKind.i64 0, Value.int IntKind.i64 0, Value.int IntKind.i64 2] 49)).alloc (Obj.cells #[Value.int IntKind.i64 0, Value.int IntKind.i64 1, Value.int IntKind.i64 0, Value.int IntKind.i64 0, Value.int IntKind.i64 1, Value.int IntKind.i64 0, Value.int IntKind.i64 0, Value.int IntKind.i64 1] 49)) = W0 := ⟨_, rfl⟩
  have hb0 : W0.heap[w.heap.size]? = some (.cells #[Value.int IntKind.i64 0, Value.int IntKind.i64 0, Value.int IntKind.i64 1, Value.int IntKind.i64 0, Value.int IntKind.i64 2, Value.int IntKind.i64 0, Value.int IntKind.i64 0, Value.int IntKind.i64 2] 49 (0, 0)) := by
    rw [← hW0]; exact (Below.heap_alloc _ _ _ (by simp)).trans (World.alloc_heap_new w _)
  have hb1 : W0.heap[w.heap.size + 1]? = some (.cells #[Value.int IntKind.i64 0, Value.int IntKind.i64 1, Value.int IntKind.i64 0, Value.int IntKind.i64 0, Value.int IntKind.i64 1, Value.int IntKind.i64 0, Value.int IntKind.i64 0, Value.int IntKind.i64 1] 49 (0, 0)) := by
    rw [← hW0]
    have := World.alloc_heap_new (w.alloc (Obj.cells #[Value.int IntKind.i64 0, Value.int IntKind.i64 0, Value.int IntKind.i64 1, Value.int IntKind.i64 0, Value.int IntKind.i64 2, Value.int IntKind.i64 0, Value.int IntKind.i64 0, Value.int IntKind.i64 2] 49)) (Obj.cells #[Value.int IntKind.i64 0, Value.int IntKind.i64 1, Value.int IntKind.i64 0, Value.int IntKind.i64 0, Value.int IntKind.i64 1, Value.int IntKind.i64 0, Value.int IntKind.i64 0, Value.int IntKind.i64 1] 49)
    rw [World.size_alloc] at this
    exact this
  have HB0 := hide hb0
  have HB1 := hide hb1
  have HKW := hide (show KO w W0 from by rw [← hW0]; exact KO.alloc (KO.alloc (KO.refl _) _) _)
  rw [hW0]
  clear hW0 hb0 hb1
  go_loopw [8, 9] (fun v8 v9 wr => ∃ k : Nat, k ≤ n ∧ v9 = .int .i64 (k : Int) ∧ Hid (∀ i, i < k → Ne.sd (t.getD i 0) ≠ 0) ∧ Hid (RG W0 (Ne.LT t lv k) k v8 wr)) (fun _ v9 _ => n - (intOf v9).toNat)
  case atStart => exact ⟨0, Nat.zero_le _, rfl, hide (fun i hi => by omega), ⟨World.ownsRow_nil _ _ _ _, Below.refl _ _⟩⟩
  case round =>
    obtain ⟨k, hk, rfl, hall, gm⟩ := hrel
    by_cases hlt : k < n
    · have hin : (k : Int) < (n : Int) := by omega
      have HR := hide (H.out.below (KO.on HKW.out gm.out.bel))
      obtain ⟨b, off, rfl, hbl, hc⟩ := HR.out.cells (by omega)
      have ck := hc k (by rw [HLEN.out]; exact hlt)
      have hx0 : wr.heap[w.heap.size]? = _ := (gm.out.bel.block _ (Array.getElem?_eq_some_iff.1 HB0.out).1).trans HB0.out
      have hx1 : wr.heap[w.heap.size + 1]? = _ := (gm.out.bel.block _ (Array.getElem?_eq_some_iff.1 HB1.out).1).trans HB1.out
      have c0 := fun (j : Nat) (v : Value) (hv : (#[Value.int IntKind.i64 0, Value.int IntKind.i64 0, Value.int IntKind.i64 1, Value.int IntKind.i64 0, Value.int IntKind.i64 2, Value.int IntKind.i64 0, Value.int IntKind.i64 0, Value.int IntKind.i64 2] : Array Value)[j]? = some v) => (show wr.cell? ⟨w.heap.size, j, none⟩ = some v from by unfold World.cell?; rw [hx0]; exact hv)
      have c1 := fun (j : Nat) (v : Value) (hv : (#[Value.int IntKind.i64 0, Value.int IntKind.i64 1, Value.int IntKind.i64 0, Value.int IntKind.i64 0, Value.int IntKind.i64 1, Value.int IntKind.i64 0, Value.int IntKind.i64 0, Value.int IntKind.i64 1] : Array Value)[j]? = some v) => (show wr.cell? ⟨w.heap.size + 1, j, none⟩ = some v from by unfold World.cell?; rw [hx1]; exact hv)
      by_cases hs : Ne.sd (t.getD k 0) = 0
      · have HE := hide (show L = [] ∧ E = 50 from by
          rcases HA.out with ⟨_, h1, h2⟩ | ⟨h1, _⟩
          · exact ⟨h1, h2⟩
          · exact absurd hs (h1 k (by rw [HLEN.out]; exact hlt)))
        have HKX := hide (KO.on HKW.out gm.out.bel)
        obtain ⟨n1, n2, n4, n7⟩ := Ne.unsided hs
        generalize t.getD k 0 = x at *
        have q1 : (x != 1) = true := bne_iff_ne.2 n1
        have q2 : (x != 2) = true := bne_iff_ne.2 n2
        have q4 : (x != 4) = true := bne_iff_ne.2 n4
        have q7 : (x != 7) = true := bne_iff_ne.2 n7
        clear hs hc hbl hall gm c0 c1 hx0 hx1 n1 n2 n4 n7
        go_wp2
        obtain ⟨rfl, rfl⟩ := HE.out
        go_ret2
        exact ⟨none, 0, rfl, row_nil _ _, HKX.out⟩
      · have HAL := hide (show ∀ i, i < k + 1 → Ne.sd (t.getD i 0) ≠ 0 from fun i hi => by
          by_cases e : i = k
          · subst e; exact hs
          · exact hall.out i (by omega))
        have HSN := hide (fun (x : Int) (v2 : Value) (w2 : World) (o : Obj) (hx : Ne.lv1 lv (t.getD k 0) = x) => RG.snoc (w := W0) (zs := Ne.LT t lv k) (ys := Ne.LT t lv (k + 1)) (k := k) (x := x) (v2 := v2) (wr := wr) (w2 := w2) (o := o) gm.out.bel (hy := by rw [Ne.LT_succ, hx]))
        have HOW := hide gm.out.own
        have hsz := gm.out.bel.size
        have HM := hide (meas_n0 n k hlt)
        have hcs := Ne.sided_cases hs
        have hpar : lv % 2 = 0 ∨ lv % 2 = 1 := by omega
        clear hall hs hc hbl gm hx0 hx1
        generalize t.getD k 0 = x at *
        have hfin : ∃ (y dd : Int), Ne.lv1 lv x = y ∧ wrap64 (lv + dd) = y ∧ ((lv % 2 = 0 ∧ wr.cell? ⟨w.heap.size, x.toNat, none⟩ = some (.int .i64 dd)) ∨ (lv % 2 = 1 ∧ wr.cell? ⟨w.heap.size + 1, x.toNat, none⟩ = some (.int .i64 dd))) := by
          have hw : ∀ d : Int, 0 ≤ d → d ≤ 2 → wrap64 (lv + d) = lv + d := fun d a b => w64_small (by omega) (by omega)
          unfold Ne.lv1
          rcases hpar with hp | hp
          · rw [if_pos hp]
            rcases hcs with rfl | rfl | rfl | rfl
            · exact ⟨lv, 0, by rw [if_pos rfl], by rw [hw 0 (by omega) (by omega)]; omega, .inl ⟨hp, c0 1 _ rfl⟩⟩
            · exact ⟨lv + 1, 1, by rw [if_neg (by omega), if_pos rfl], hw 1 (by omega) (by omega), .inl ⟨hp, c0 2 _ rfl⟩⟩
            · exact ⟨lv + 2, 2, by rw [if_neg (by omega), if_neg (by omega)], hw 2 (by omega) (by omega), .inl ⟨hp, c0 4 _ rfl⟩⟩
            · exact ⟨lv + 2, 2, by rw [if_neg (by omega), if_neg (by omega)], hw 2 (by omega) (by omega), .inl ⟨hp, c0 7 _ rfl⟩⟩
          · rw [if_neg (by omega)]
            rcases hcs with rfl | rfl | rfl | rfl
            · exact ⟨lv + 1, 1, by rw [if_neg (by omega)], hw 1 (by omega) (by omega), .inr ⟨hp, c1 1 _ rfl⟩⟩
            · exact ⟨lv, 0, by rw [if_pos rfl], by rw [hw 0 (by omega) (by omega)]; omega, .inr ⟨hp, c1 2 _ rfl⟩⟩
            · exact ⟨lv + 1, 1, by rw [if_neg (by omega)], hw 1 (by omega) (by omega), .inr ⟨hp, c1 4 _ rfl⟩⟩
            · exact ⟨lv + 1, 1, by rw [if_neg (by omega)], hw 1 (by omega) (by omega), .inr ⟨hp, c1 7 _ rfl⟩⟩
        obtain ⟨y, dd, hy, hyw, hcc⟩ := hfin
        have HX := hide (fun v2 w2 o => HSN.out y v2 w2 o hy)
        clear HSN hy c0 c1 hpar
        rcases hcc with ⟨hp, cc⟩ | ⟨hp, cc⟩
        all_goals
          rw [hp] at htm
          clear hp
          rcases hcs with rfl | rfl | rfl | rfl
          all_goals
            simp only [show (1 : Int).toNat = 1 from rfl, show (2 : Int).toNat = 2 from rfl, show (4 : Int).toNat = 4 from rfl, show (7 : Int).toNat = 7 from rfl] at cc
            go_wp2_with (first
              | (at_builtin; refine wpList_append_row _ rfl (.tmp 46) (.tmp 52) 22 rfl W0.heap.size 3 ii (.int .i64 0) 8 Try.underlying22 HII.out HY0.out HY1.out HY2.out rfl _ k _ rfl (HOW.out.alloc _) .i64 _ 1 1 [y] rfl (row_one _ wr.heap.size rfl y) (by omega) (by omega) (by simp; omega) ?_; intro v2 w2 hown2 hb2)
              | (at_builtin; refine wpList_append_row _ rfl (.tmp 54) (.tmp 60) 22 rfl W0.heap.size 3 ii (.int .i64 0) 8 Try.underlying22 HII.out HY0.out HY1.out HY2.out rfl _ k _ rfl (HOW.out.alloc _) .i64 _ 1 1 [y] rfl (row_one _ wr.heap.size rfl y) (by omega) (by omega) (by simp; omega) ?_; intro v2 w2 hown2 hb2))
            have HMM := hide (HX.out v2 w2 _ hb2 hown2)
            clear hown2 hb2 HX HOW
            go_roundw
            case rel => exact ⟨k + 1, by omega, by go_num, HAL, HMM⟩
            case measure => exact HM.out
    · obtain rfl : k = n := by omega
      have hne : ¬ ((k : Int) < (k : Int)) := by omega
      have HE := hide (show L = Ne.LT t lv k ∧ E = 0 ∧ (Ne.LT t lv k).length = k from by
        have e : Ne.LT t lv k = Ne.LS t lv := by unfold Ne.LT Ne.LS; rw [HLEN.out]
        rcases HA.out with ⟨h1, _⟩ | ⟨_, h1, h2⟩
        · exact absurd (fun i hi => hall.out i (by rw [HLEN.out] at hi; exact hi)) h1
        · exact ⟨by rw [e]; exact h1, h2, by simp [Ne.LT]⟩)
      obtain ⟨a1, c1, rfl, hr1⟩ := row_of_owns gm.out.own
      have HWW := hide (show Row .i64 wr a1 k c1 (Ne.LT t lv k) ∧ KO w wr from ⟨hr1, KO.on HKW.out gm.out.bel⟩)
      clear gm hlt hall hr1
      go_wp2
      obtain ⟨rfl, rfl, hl⟩ := HE.out
      go_ret2
      rw [hl]
      exact ⟨_, _, rfl, HWW.out.1, HWW.out.2⟩
theorem rlevels_any (ao : Option Addr) (n cap : Nat) (lv : Int) (t : List Int) (w : World) (h : Row .i64 w ao n cap t) (hn : n * 8 ≤ 140737488351232) (L : List Int) (E : Int) (hA : Ne.AL t lv L E) :
    Calls Try.prog 14 #[.slice ao n cap, .int .i64 lv] w fun e w' => ∃ a1 c1, e = .returned (.tuple #[.slice a1 L.length c1, .int .i64 E]) ∧ Row .i64 w' a1 L.length c1 L ∧ KO w w' := by
  rcases hA with ⟨hg, rfl, rfl⟩ | ⟨hg, ho, rfl, rfl⟩ | ⟨hg, ho, rfl, rfl⟩
  · exact (rlevels_bad ao n cap lv w hg).mono fun e w' ⟨he, hk⟩ => ⟨none, 0, he, row_nil _ _, by rw [← hk]; exact KO.refl _⟩
  · exact rlevels_go ao n cap lv t w h hn hg _ _ (.inl ⟨ho, rfl, rfl⟩)
  · exact rlevels_go ao n cap lv t w h hn hg _ _ (.inr ⟨ho, rfl, rfl⟩)
end Go.Proofs.Ytbpjacalnipkgaa
