/- works: the chapter's examples. -/
import Derived.Test.YtkajiagflcflpaaWf
namespace Go.Proofs.Ytkajiagflcflpaa
open Go.RowKit
set_option linter.unusedVariables false
set_option maxHeartbeats 1000000
set_option maxRecDepth 100000
theorem ok_all {t : List Int} (h : ∀ x ∈ t, We.May x) : We.Ok t := by
  intro i hi
  have e : t.getD i 0 = t[i] := by simp [List.getD, List.getElem?_eq_getElem hi]
  rw [e]; exact h _ (List.getElem_mem _)
theorem ok9a : We.Ok [3, 4] := ok_all (by decide)
theorem ok9b : We.Ok [6, 6, 4] := ok_all (by decide)
theorem ok9c : We.Ok [4, 8, 4] := ok_all (by decide)
theorem ex9a : We.RR 1 [3, 4] 7 = [2, 7] := by decide
theorem ex9b : We.RR 2 [6, 6, 4] 7 = [4, 4, 4] := by decide
theorem ex9c : We.RR 1 [4, 8, 4] 7 = [1, 1, 1] := by decide
theorem New.keep {w w' w2 : World} {ao : Option Addr} {n cap : Nat} {zs : List Int} (h : New w ao n cap zs w') (hk : KO w' w2) : New w ao n cap zs w2 := ⟨h.row.below hk, KO.on h.bel hk⟩
theorem works9_any (w : World) : Calls Try.prog 9 #[] w fun e w' => e = .returned (.bool true) ∧ KO w w' := by
  have HA := hide (fun (w' : World) => resolve_ok (some ⟨w'.heap.size, 0, none⟩) 2 2 1 [3, 4] (w'.alloc (.cells #[.int .i64 3, .int .i64 4] 3)) (row_lit .i64 w' [3, 4] 3 (by decide)) (by omega) (.inl rfl) ok9a)
  have HB := hide (fun (w' : World) => resolve_ok (some ⟨w'.heap.size, 0, none⟩) 3 3 2 [6, 6, 4] (w'.alloc (.cells #[.int .i64 6, .int .i64 6, .int .i64 4] 3)) (row_lit .i64 w' [6, 6, 4] 3 (by decide)) (by omega) (.inr rfl) ok9b)
  have HC := hide (fun (w' : World) => resolve_ok (some ⟨w'.heap.size, 0, none⟩) 3 3 1 [4, 8, 4] (w'.alloc (.cells #[.int .i64 4, .int .i64 8, .int .i64 4] 3)) (row_lit .i64 w' [4, 8, 4] 3 (by decide)) (by omega) (.inl rfl) ok9c)
  rw [ex9a] at HA
  rw [ex9b] at HB
  rw [ex9c] at HC
  go_enter Try.func9, Try.ntmps9
  go_wp2_with fail
  refine (HA.out w).mono ?_
  rintro e w1 ⟨g1, rfl, hN1⟩
  have K1 := hide (show KO w w1 from KO.on (KO.alloc (KO.refl w) _) hN1.bel)
  have N1 := hide hN1.row
  clear hN1 HA
  go_wp2_with fail
  refine (HB.out w1).mono ?_
  rintro e w2 ⟨g2, rfl, hN2⟩
  have K2 := hide (show KO w1 w2 from KO.on (KO.alloc (KO.refl w1) _) hN2.bel)
  have N2 := hide hN2.row
  clear hN2 HB
  go_wp2_with fail
  refine (HC.out w2).mono ?_
  rintro e w3 ⟨g3, rfl, hN3⟩
  have K3 := hide (show KO w2 w3 from KO.on (KO.alloc (KO.refl w2) _) hN3.bel)
  have N3 := hide hN3.row
  clear hN3 HC
  have hka : KO w3 (w3.alloc (.cells #[.int .i64 2, .int .i64 7] 3)) := KO.alloc (KO.refl _) _
  have HI1 := hide (ints_yes (some ⟨g1, 0, none⟩) (some ⟨w3.heap.size, 0, none⟩) 2 2 2 [2, 7] _ (N1.out.below (KO.on (KO.on K2.out K3.out) hka)) (row_lit .i64 w3 [2, 7] 3 (by decide)))
  have KA1 := hide hka
  clear hka
  go_wp2_with fail
  refine HI1.out.mono ?_
  rintro e w4 ⟨rfl, hd4⟩
  have K4 := hide (show KO w3 w4 from KO.on KA1.out (below_of_drewN hd4))
  clear hd4 HI1 KA1
  have hka : KO w4 (w4.alloc (.cells #[.int .i64 4, .int .i64 4, .int .i64 4] 3)) := KO.alloc (KO.refl _) _
  have HI2 := hide (ints_yes (some ⟨g2, 0, none⟩) (some ⟨w4.heap.size, 0, none⟩) 3 3 3 [4, 4, 4] _ (N2.out.below (KO.on (KO.on K3.out K4.out) hka)) (row_lit .i64 w4 [4, 4, 4] 3 (by decide)))
  have KA2 := hide hka
  clear hka
  go_wp2_with fail
  refine HI2.out.mono ?_
  rintro e w5 ⟨rfl, hd5⟩
  have K5 := hide (show KO w4 w5 from KO.on KA2.out (below_of_drewN hd5))
  clear hd5 HI2 KA2
  have hka : KO w5 (w5.alloc (.cells #[.int .i64 1, .int .i64 1, .int .i64 1] 3)) := KO.alloc (KO.refl _) _
  have HI3 := hide (ints_yes (some ⟨g3, 0, none⟩) (some ⟨w5.heap.size, 0, none⟩) 3 3 3 [1, 1, 1] _ (N3.out.below (KO.on (KO.on K4.out K5.out) hka)) (row_lit .i64 w5 [1, 1, 1] 3 (by decide)))
  have KA3 := hide hka
  clear hka
  go_wp2_with fail
  refine HI3.out.mono ?_
  rintro e w6 ⟨rfl, hd6⟩
  have K6 := hide (show KO w5 w6 from KO.on KA3.out (below_of_drewN hd6))
  clear hd6 HI3 KA3
  go_wp2
  go_ret
  exact ⟨rfl, KO.on K1.out (KO.on K2.out (KO.on K3.out (KO.on K4.out (KO.on K5.out K6.out))))⟩
end Go.Proofs.Ytkajiagflcflpaa
