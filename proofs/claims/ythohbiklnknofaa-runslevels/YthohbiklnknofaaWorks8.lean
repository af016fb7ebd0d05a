/- works: the chapter's examples. -/
import Derived.Test.YthohbiklnknofaaSt
namespace Go.Proofs.Ythohbiklnknofaa
open Go.RowKit Go.Maps
set_option linter.unusedVariables false
set_option maxHeartbeats 1000000
set_option maxRecDepth 100000
theorem ex8_r : Rn.RS [0, 0, -1, 0, 1, 1, 0] = [[0, 1, 3], [4, 5], [6]] := by decide
theorem ex8_lv : Ex.LV 0 [1, 21, 2, 23, 1] = [0, 0, 1, 0, 0] := by decide
theorem ex8_mt : Iso.MT [1, 21, 2, 23, 1] = [0, 3, 2, 1, 4] := by decide
theorem ex8_rs : Rn.RS [0, 0, 1, 0, 0] = [[0, 1], [2], [3, 4]] := by decide
theorem ex8_f : Ex.Formed [1, 21, 2, 23, 1] := by
  intro i hi
  match i, hi with
  | 0, _ => decide
  | 1, _ => decide
  | 2, _ => decide
  | 3, _ => decide
  | 4, _ => decide
theorem ex8_s : Rn.sqs 0 (Ex.LV 0 [1, 21, 2, 23, 1]) (Iso.MT [1, 21, 2, 23, 1]) (Rn.RS (Ex.LV 0 [1, 21, 2, 23, 1])) (Rn.RS (Ex.LV 0 [1, 21, 2, 23, 1])).length = [⟨[0, 1, 3, 4], 0, 1, 1⟩, ⟨[2], 1, 2, 2⟩] := by
  rw [ex8_lv, ex8_mt, ex8_rs]
  kernel_rfl
theorem works8_any (w : World) : Calls Try.prog 9 #[] w fun e w' => e = .returned (.bool true) ∧ Below w.heap.size w w' := by
  have hk0 : KO w (w.alloc (.cells #[.int .i64 0, .int .i64 0, .int .i64 (-1), .int .i64 0, .int .i64 1, .int .i64 1, .int .i64 0] 3)) := KO.alloc (KO.refl _) _
  have hr0 : Row .i64 (w.alloc (.cells #[.int .i64 0, .int .i64 0, .int .i64 (-1), .int .i64 0, .int .i64 1, .int .i64 1, .int .i64 0] 3)) (some ⟨w.heap.size, 0, none⟩) 7 7 [0, 0, -1, 0, 1, 1, 0] := row_lit .i64 w [0, 0, -1, 0, 1, 1, 0] 3 (by decide)
  have HR0 := hide (levels_any _ 7 7 [0, 0, -1, 0, 1, 1, 0] _ hr0 (by omega))
  rw [ex8_r] at HR0
  have HK0 := hide hk0
  clear hr0 hk0
  go_enter Try.func9, Try.ntmps9
  go_wp2_with fail
  refine HR0.out.mono ?_
  rintro e w1 ⟨v1, rfl, ⟨vs1, hlo1⟩, hb1⟩
  have k1 : KO w w1 := KO.on HK0.out hb1
  obtain ⟨a1, c1, rfl, ll1⟩ := hlo1.view (fun j hj => by
    match j, hj with
    | 0, _ => decide
    | 1, _ => decide
    | 2, _ => decide)
  replace ll1 : LL w1 a1 3 c1 [[0, 1, 3], [4, 5], [6]] := ll1
  have el : ([[0, 1, 3], [4, 5], [6]] : List (List Nat)).length = 3 := rfl
  rw [el]
  have hr1 : Row .i64 (w1.alloc (.cells #[.int .i64 1, .int .i64 21, .int .i64 2, .int .i64 23, .int .i64 1] 3)) (some ⟨w1.heap.size, 0, none⟩) 5 5 [1, 21, 2, 23, 1] := row_lit .i64 w1 [1, 21, 2, 23, 1] 3 (by decide)
  have HR1 := hide (sequences_ok _ 5 5 [1, 21, 2, 23, 1] 0 _ hr1 (by omega) (.inl rfl) ex8_f)
  rw [ex8_s] at HR1
  have ka : KO w1 (w1.alloc (.cells #[.int .i64 1, .int .i64 21, .int .i64 2, .int .i64 23, .int .i64 1] 3)) := KO.alloc (KO.refl _) _
  have HLL1 := hide ll1
  clear hr1 HR0 hb1 HK0 hlo1 ll1 el
  go_wp2_with fail
  refine HR1.out.mono ?_
  rintro e w2 ⟨sa, cs, rfl, sl, hb2⟩
  have k2 : KO w1 w2 := KO.on ka hb2
  replace sl : SL w2 sa 2 cs [⟨[0, 1, 3, 4], 0, 1, 1⟩, ⟨[2], 1, 2, 2⟩] := sl
  have el : ([⟨[0, 1, 3, 4], 0, 1, 1⟩, ⟨[2], 1, 2, 2⟩] : List Rn.Sq).length = 2 := rfl
  rw [el]
  have ll2 := HLL1.out.below k2
  obtain ⟨g, gj, cj, rfl, hgl, cg, hrow⟩ := ll2.at' 0 (by omega)
  obtain ⟨sg, sgj, scj, rfl, hsg, s0, s1, s2, s3, srow⟩ := sl.at' 0 (by omega)
  obtain ⟨_, sgj', scj', e9, _, t0, t1, t2, t3, _⟩ := sl.at' 1 (by omega)
  simp only [Option.some.injEq, Addr.mk.injEq, and_true] at e9
  obtain rfl := e9
  replace cg : w2.cell? ⟨g, 0, none⟩ = some (.slice (some ⟨gj, 0, none⟩) 3 cj) := cg
  replace hrow : Row .i64 w2 (some ⟨gj, 0, none⟩) 3 cj [0, 1, 3] := hrow
  replace s0 : w2.cell? ⟨sg, 0, none⟩ = some (.slice (some ⟨sgj, 0, none⟩) 4 scj) := s0
  replace srow : Row .i64 w2 (some ⟨sgj, 0, none⟩) 4 scj [0, 1, 3, 4] := srow
  replace t1 : w2.cell? ⟨sg, 5, none⟩ = some (.int .i64 1) := t1
  replace t2 : w2.cell? ⟨sg, 6, none⟩ = some (.int .i64 2) := t2
  have kb : KO w2 (w2.alloc (.cells #[.int .i64 0, .int .i64 1, .int .i64 3] 3)) := KO.alloc (KO.refl _) _
  have HI1 := hide (ints_yes (some ⟨gj, 0, none⟩) (some ⟨w2.heap.size, 0, none⟩) 3 cj 3 [0, 1, 3] _ (hrow.below kb) (row_lit .i64 w2 [0, 1, 3] 3 (by decide)))
  have HSG := hide hsg
  have HSR := hide srow
  clear HR1 hb2 ka ll2 hrow srow sl el HLL1 s1 s2 s3 t0 t3
  go_wp2_with fail
  refine HI1.out.mono ?_
  rintro e w3 ⟨rfl, hd3⟩
  have k3 : KO w2 w3 := KO.on kb (below_of_drewN hd3)
  have x0 := (Below.cell k3 (p := ⟨sg, 0, none⟩) (by exact HSG.out)).trans s0
  have kc : KO w3 (w3.alloc (.cells #[.int .i64 0, .int .i64 1, .int .i64 3, .int .i64 4] 3)) := KO.alloc (KO.refl _) _
  have HI2 := hide (ints_yes (some ⟨sgj, 0, none⟩) (some ⟨w3.heap.size, 0, none⟩) 4 scj 4 [0, 1, 3, 4] _ ((HSR.out.below k3).below kc) (row_lit .i64 w3 [0, 1, 3, 4] 3 (by decide)))
  clear HI1 hd3
  go_wp2_with fail
  refine HI2.out.mono ?_
  rintro e w4 ⟨rfl, hd4⟩
  have k4 : KO w2 w4 := KO.on k3 (KO.on kc (below_of_drewN hd4))
  have x1 := (Below.cell k4 (p := ⟨sg, 5, none⟩) (by exact HSG.out)).trans t1
  have x2 := (Below.cell k4 (p := ⟨sg, 6, none⟩) (by exact HSG.out)).trans t2
  have HK := hide (KO.on k1 (KO.on k2 k4))
  clear HI2 hd4 k1 k2 k3 k4 kb kc
  go_wp2_with fail
  go_ret
  exact ⟨rfl, HK.out⟩
end Go.Proofs.Ythohbiklnknofaa
