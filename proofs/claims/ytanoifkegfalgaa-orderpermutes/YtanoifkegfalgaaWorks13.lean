/- What the program answers, as rows; the chapter's examples. -/
import Derived.Test.YtanoifkegfalgaaOy
import Derived.Test.YtanoifkegfalgaaCl13
import Derived.Test.YtanoifkegfalgaaLn13
namespace Go.Proofs.Ytanoifkegfalgaa
open Go.RowKit
set_option linter.unusedVariables false
set_option maxHeartbeats 1000000
set_option maxRecDepth 100000
theorem row_any {w : World} {base n : Nat} {v : Value} {zs : List Int} (h : w.ownsRow base 3 1 v n (zs.map (Value.int .i64))) : ∃ a c, v = .slice a zs.length c ∧ Row .i64 w a zs.length c zs := by
  have hl : zs.length = n := by have := h.1; simpa using this
  subst hl
  exact row_of_owns h
/-- What Order answers. -/
def OA (l L : List Int) (E : Int) : Prop := (Od.Fo l ∧ L = Od.ON l ∧ E = 0) ∨ (¬ Od.Fo l ∧ L = [] ∧ E = 2)
theorem OA_some (l : List Int) : ∃ L E, OA l L E := by
  by_cases h : Od.Fo l
  · exact ⟨_, _, .inl ⟨h, rfl, rfl⟩⟩
  · exact ⟨_, _, .inr ⟨h, rfl, rfl⟩⟩
theorem order_any (ao : Option Addr) (n cap : Nat) (l : List Int) (w : World) (h : Row .i64 w ao n cap l) (hn : n * 8 ≤ 140737488351232) (L : List Int) (E : Int) (hA : OA l L E) :
    Calls Try.prog 13 #[.slice ao n cap] w fun e w' => ∃ a c, e = .returned (.tuple #[.slice a L.length c, .int .i64 E]) ∧ Row .i64 w' a L.length c L ∧ KO w w' := by
  rcases hA with hA | hA
  · obtain ⟨hf, hL, hE⟩ := hA
    subst hE
    have hO := order_ok ao n cap l w h hf hn
    rw [← hL] at hO
    have hLl : L.length = (Od.OD l).length := by rw [hL]; exact Od.ON_len l
    rw [← hLl] at hO
    clear hL hLl
    refine hO.mono ?_
    rintro e w' ⟨v, e0, ho, hk⟩
    obtain ⟨a, c, e1, hr⟩ := row_any ho
    exact ⟨a, c, by rw [e0, e1], hr, hk⟩
  · obtain ⟨hf, hL, hE⟩ := hA
    subst hE
    subst hL
    refine (order_bad ao n cap l w h hf).mono ?_
    rintro e w' ⟨e0, e1⟩
    exact ⟨none, 0, e0, row_nil _ _, by rw [← e1]; exact KO.refl _⟩
/-- What Columns answers. -/
def CA (o : List Int) (n : Int) (L : List Int) (E : Int) : Prop := ((n < 0 ∨ 4096 < n) ∧ L = [] ∧ E = 2) ∨ (¬ (n < 0 ∨ 4096 < n) ∧ ¬ Od.Orderly o n o.length ∧ L = [] ∧ E = 50) ∨ (¬ (n < 0 ∨ 4096 < n) ∧ Od.Orderly o n o.length ∧ L = Od.CO o n.toNat o.length ∧ E = 0)
theorem CA_some (o : List Int) (n : Int) : ∃ L E, CA o n L E := by
  by_cases h1 : n < 0 ∨ 4096 < n
  · exact ⟨_, _, .inl ⟨h1, rfl, rfl⟩⟩
  · by_cases h2 : Od.Orderly o n o.length
    · exact ⟨_, _, .inr (.inr ⟨h1, h2, rfl, rfl⟩)⟩
    · exact ⟨_, _, .inr (.inl ⟨h1, h2, rfl, rfl⟩)⟩
theorem cols_any (ao : Option Addr) (m cap : Nat) (n : Int) (o : List Int) (w : World) (h : Row .i64 w ao m cap o) (L : List Int) (E : Int) (hA : CA o n L E) :
    Calls Try.prog 15 #[.slice ao m cap, .int .i64 n] w fun e w' => ∃ a c, e = .returned (.tuple #[.slice a L.length c, .int .i64 E]) ∧ Row .i64 w' a L.length c L ∧ KO w w' := by
  have hl := h.len
  rcases hA with ⟨h1, rfl, rfl⟩ | ⟨h1, h2, rfl, rfl⟩ | ⟨h1, h2, rfl, rfl⟩
  · refine (cols_arg ao m cap n w h1).mono ?_
    rintro e w' ⟨rfl, rfl⟩
    exact ⟨none, 0, rfl, row_nil _ _, KO.refl _⟩
  · obtain ⟨k, rfl⟩ : ∃ k : Nat, n = (k : Int) := ⟨n.toNat, by omega⟩
    subst hl
    refine (cols_ok ao _ cap k o w h (by omega)).mono ?_
    rintro e w' ⟨⟨_, rfl⟩ | ⟨h3, _⟩, hk⟩
    · exact ⟨none, 0, rfl, row_nil _ _, hk⟩
    · exact absurd h3 h2
  · obtain ⟨k, rfl⟩ : ∃ k : Nat, n = (k : Int) := ⟨n.toNat, by omega⟩
    subst hl
    refine (cols_ok ao _ cap k o w h (by omega)).mono ?_
    rintro e w' ⟨⟨h3, _⟩ | ⟨_, g, rfl, ho⟩, hk⟩
    · exact absurd h2 h3
    · rw [Int.toNat_natCast]
      generalize hL : Od.CO o k o.length = L at ho
      have e2 : L.length = k := by rw [← hL]; exact Od.CO_len _ _ _
      have hr := row_owned ho
      rw [e2]
      exact ⟨_, _, rfl, hr, hk⟩
theorem ex13a : OA [0, 0, 1, 1, 0] [0, 1, 3, 2, 4] 0 := .inl ⟨by decide, by decide +kernel, rfl⟩
theorem ex13b : OA [1, 2, 2, 1] [3, 1, 2, 0] 0 := .inl ⟨by decide, by decide +kernel, rfl⟩
theorem ex13c : CA [3, 1, 2, 0] 5 [3, 1, 2, 0, -1] 0 := by
  refine .inr (.inr ⟨by omega, ⟨?_, ?_⟩, by decide +kernel, rfl⟩)
  · decide
  · have h : ∀ j, j < 4 → ∀ i, i < j → ¬ ([3, 1, 2, 0] : List Int).getD i 0 = ([3, 1, 2, 0] : List Int).getD j 0 := by decide
    exact fun i j hij hj => h j hj i hij
theorem ex13d : Od.LX (mid [1, 13] 0 2) (mid [0, 0] 0 2) 1 (2 - 0) 0 = [0, 1] := by decide +kernel
theorem exd (w : World) : Calls Try.prog 10 #[.slice (some ⟨w.heap.size, 0, none⟩) 2 2, .slice (some ⟨w.heap.size + 1, 0, none⟩) 2 2, .int .i64 1, .int .i64 0, .int .i64 2] ((w.alloc (.cells #[.int .i64 1, .int .i64 13] 3)).alloc (.cells #[.int .i64 0, .int .i64 0] 3)) fun e w' =>
    ∃ a c, e = .returned (.tuple #[.slice a 2 c, .int .i64 0]) ∧ Row .i64 w' a 2 c [0, 1] ∧ KO w w' := by
  have h1 := row_lit .i64 w [1, 13] 3 (by decide)
  have hka : KO (w.alloc (.cells #[.int .i64 1, .int .i64 13] 3)) ((w.alloc (.cells #[.int .i64 1, .int .i64 13] 3)).alloc (.cells #[.int .i64 0, .int .i64 0] 3)) := KO.alloc (KO.refl _) _
  have h2 := row_lit .i64 (w.alloc (.cells #[.int .i64 1, .int .i64 13] 3)) [0, 0] 3 (by decide)
  have hs : (w.alloc (.cells #[.int .i64 1, .int .i64 13] 3)).heap.size = w.heap.size + 1 := by simp
  rw [hs] at h2
  refine (line_ok _ _ 2 2 2 0 2 [1, 13] [0, 0] 1 _ (h1.below hka) h2 ⟨rfl, by omega, by omega, by decide⟩ (by omega) (by omega) (by omega)).mono ?_
  rintro e w' ⟨v, rfl, ho, hk⟩
  rw [ex13d] at ho
  obtain ⟨a, c, rfl, hr⟩ := row_any ho
  exact ⟨a, c, rfl, hr, KO.on (KO.alloc (KO.refl w) _) (KO.on hka hk)⟩
theorem works13_any (w : World) : Calls Try.prog 9 #[] w fun e w' => e = .returned (.bool true) ∧ KO w w' := by
  have HA := hide (fun (w' : World) => order_any (some ⟨w'.heap.size, 0, none⟩) 5 5 [0, 0, 1, 1, 0] (w'.alloc (.cells #[.int .i64 0, .int .i64 0, .int .i64 1, .int .i64 1, .int .i64 0] 3)) (row_lit .i64 w' [0, 0, 1, 1, 0] 3 (by decide)) (by omega) _ _ ex13a)
  have HB := hide (fun (w' : World) => order_any (some ⟨w'.heap.size, 0, none⟩) 4 4 [1, 2, 2, 1] (w'.alloc (.cells #[.int .i64 1, .int .i64 2, .int .i64 2, .int .i64 1] 3)) (row_lit .i64 w' [1, 2, 2, 1] 3 (by decide)) (by omega) _ _ ex13b)
  go_enter Try.func9, Try.ntmps9
  go_wp2_with fail
  refine (HA.out w).mono ?_
  rintro e w1 ⟨a1, c1, rfl, hr1, hk1⟩
  have K1 := hide (show KO w w1 from KO.on (KO.alloc (KO.refl w) _) hk1)
  have N1 := hide (show Row .i64 w1 a1 5 c1 [0, 1, 3, 2, 4] from hr1)
  clear hr1 hk1 HA
  go_wp2_with fail
  refine (HB.out w1).mono ?_
  rintro e w2 ⟨a2, c2, rfl, hr2, hk2⟩
  have K2 := hide (show KO w1 w2 from KO.on (KO.alloc (KO.refl w1) _) hk2)
  have N2 := hide (show Row .i64 w2 a2 4 c2 [3, 1, 2, 0] from hr2)
  have HC := hide (show Calls Try.prog 15 #[.slice a2 4 c2, .int .i64 5] w2 _ from cols_any a2 4 c2 5 [3, 1, 2, 0] w2 hr2 _ _ ex13c)
  clear hr2 hk2 HB
  go_wp2_with fail
  refine HC.out.mono ?_
  rintro e w3 ⟨a3, c3, rfl, hr3, hk3⟩
  have K3 := hide hk3
  have N3 := hide (show Row .i64 w3 a3 5 c3 [3, 1, 2, 0, -1] from hr3)
  have HD := hide (exd w3)
  clear hr3 hk3 HC
  go_wp2_with fail
  refine HD.out.mono ?_
  rintro e w4 ⟨a4, c4, rfl, hr4, hk4⟩
  have K4 := hide hk4
  have N4 := hide hr4
  clear hr4 hk4 HD
  have hka : KO w4 (w4.alloc (.cells #[.int .i64 0, .int .i64 1, .int .i64 3, .int .i64 2, .int .i64 4] 3)) := KO.alloc (KO.refl _) _
  have HI1 := hide (ints_yes a1 (some ⟨w4.heap.size, 0, none⟩) 5 c1 5 [0, 1, 3, 2, 4] _ (N1.out.below (KO.on K2.out (KO.on K3.out (KO.on K4.out hka)))) (row_lit .i64 w4 [0, 1, 3, 2, 4] 3 (by decide)))
  have KA1 := hide hka
  clear hka
  go_wp2_with fail
  refine HI1.out.mono ?_
  rintro e w5 ⟨rfl, hd5⟩
  have K5 := hide (show KO w4 w5 from KO.on KA1.out (below_of_drewN hd5))
  clear hd5 HI1 KA1
  have hka : KO w5 (w5.alloc (.cells #[.int .i64 3, .int .i64 1, .int .i64 2, .int .i64 0] 3)) := KO.alloc (KO.refl _) _
  have HI2 := hide (ints_yes a2 (some ⟨w5.heap.size, 0, none⟩) 4 c2 4 [3, 1, 2, 0] _ (N2.out.below (KO.on K3.out (KO.on K4.out (KO.on K5.out hka)))) (row_lit .i64 w5 [3, 1, 2, 0] 3 (by decide)))
  have KA2 := hide hka
  clear hka
  go_wp2_with fail
  refine HI2.out.mono ?_
  rintro e w6 ⟨rfl, hd6⟩
  have K6 := hide (show KO w5 w6 from KO.on KA2.out (below_of_drewN hd6))
  clear hd6 HI2 KA2
  have hka : KO w6 (w6.alloc (.cells #[.int .i64 3, .int .i64 1, .int .i64 2, .int .i64 0, .int .i64 (-1)] 3)) := KO.alloc (KO.refl _) _
  have HI3 := hide (ints_yes a3 (some ⟨w6.heap.size, 0, none⟩) 5 c3 5 [3, 1, 2, 0, -1] _ (N3.out.below (KO.on K4.out (KO.on K5.out (KO.on K6.out hka)))) (row_lit .i64 w6 [3, 1, 2, 0, -1] 3 (by decide)))
  have KA3 := hide hka
  clear hka
  go_wp2_with fail
  refine HI3.out.mono ?_
  rintro e w7 ⟨rfl, hd7⟩
  have K7 := hide (show KO w6 w7 from KO.on KA3.out (below_of_drewN hd7))
  clear hd7 HI3 KA3
  have hka : KO w7 (w7.alloc (.cells #[.int .i64 0, .int .i64 1] 3)) := KO.alloc (KO.refl _) _
  have HI4 := hide (ints_yes a4 (some ⟨w7.heap.size, 0, none⟩) 2 c4 2 [0, 1] _ (N4.out.below (KO.on K5.out (KO.on K6.out (KO.on K7.out hka)))) (row_lit .i64 w7 [0, 1] 3 (by decide)))
  have KA4 := hide hka
  clear hka
  go_wp2_with fail
  refine HI4.out.mono ?_
  rintro e w8 ⟨rfl, hd8⟩
  have K8 := hide (show KO w7 w8 from KO.on KA4.out (below_of_drewN hd8))
  clear hd8 HI4 KA4
  go_wp2
  go_ret
  exact ⟨rfl, KO.on K1.out (KO.on K2.out (KO.on K3.out (KO.on K4.out (KO.on K5.out (KO.on K6.out (KO.on K7.out K8.out))))))⟩
end Go.Proofs.Ytanoifkegfalgaa
