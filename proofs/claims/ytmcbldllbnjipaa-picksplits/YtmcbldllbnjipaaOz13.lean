/- What Order answers, as a row. -/
import Derived.Test.YtmcbldllbnjipaaOy
namespace Go.Proofs.Ytmcbldllbnjipaa
open Go.RowKit
set_option linter.unusedVariables false
set_option maxHeartbeats 1000000
set_option maxRecDepth 100000
theorem row_any {w : World} {base n : Nat} {v : Value} {zs : List Int} (h : w.ownsRow base 3 1 v n (zs.map (Value.int .i64))) : ∃ a c, v = .slice a zs.length c ∧ Row .i64 w a zs.length c zs := by
  have hl : zs.length = n := by have := h.1; simpa using this
  subst hl
  exact row_of_owns h
/-- What Order answers. -/
def OA (l L : List Int) (E : Int) : Prop := (Od.Fo l ∧ L = Od.ON l ∧ E = 0) ∨ (¬ Od.Fo l ∧ L = [] ∧ E = 2)
theorem OA_some (l : List Int) : ∃ L E, OA l L E := by
  by_cases h : Od.Fo l
  · exact ⟨_, _, .inl ⟨h, rfl, rfl⟩⟩
  · exact ⟨_, _, .inr ⟨h, rfl, rfl⟩⟩
theorem order_any (ao : Option Addr) (n cap : Nat) (l : List Int) (w : World) (h : Row .i64 w ao n cap l) (hn : n * 8 ≤ 281474976702464) (L : List Int) (E : Int) (hA : OA l L E) :
    Calls Try.prog 16 #[.slice ao n cap] w fun e w' => ∃ a c, e = .returned (.tuple #[.slice a L.length c, .int .i64 E]) ∧ Row .i64 w' a L.length c L ∧ KO w w' := by
  rcases hA with hA | hA
  · obtain ⟨hf, hL, hE⟩ := hA
    subst hE
    have hO := order_ok ao n cap l w h hf hn
    rw [← hL] at hO
    have hLl : L.length = (Od.OD l).length := by rw [hL]; exact Od.ON_len l
    rw [← hLl] at hO
    clear hL hLl
    refine hO.mono ?_
    rintro e w' ⟨v, e0, ho, hk⟩
    obtain ⟨a, c, e1, hr⟩ := row_any ho
    exact ⟨a, c, by rw [e0, e1], hr, hk⟩
  · obtain ⟨hf, hL, hE⟩ := hA
    subst hE
    subst hL
    refine (order_bad ao n cap l w h hf).mono ?_
    rintro e w' ⟨e0, e1⟩
    exact ⟨none, 0, e0, row_nil _ _, by rw [← e1]; exact KO.refl _⟩
end Go.Proofs.Ytmcbldllbnjipaa
