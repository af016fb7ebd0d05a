/- The document's own class (colophonref03.Class): its contract; the names of the classes; the walk of UcdClasses. -/
import Derived.Test.YteiljaecaahonaaRows
import Derived.Test.YteiljaecaahonaaUc
import Derived.Test.YteiljaecaahonaaArgs
import Derived.Test.YteiljaecaahonaaRefr
import Derived.Test.YteiljaecaahonaaCls
import Derived.WalkKit
import Derived.WalkSpells
import Derived.WalkLawsBesides
import Derived.Outline
namespace Go.Proofs.Yteiljaecaahonaa
open Go.RowKit
set_option linter.unusedVariables false
set_option maxHeartbeats 1000000
set_option maxRecDepth 100000
theorem rsize_any (r : Int) (w : World) (hr : (Lit.int .i32 r).wf = true) :
    Calls Try.prog 67 #[.int .i32 r] w fun e w' => ∃ n : Int, e = .returned (.int .i64 n) ∧ w = w' ∧ ((n = 0) ↔ Ucd.valid r = false) := by
  have hb : -2147483648 ≤ r ∧ r ≤ 2147483647 := bounds_i32 hr
  clear hr
  by_cases h1 : r < 0
  · go_enter Try.func67, Try.ntmps67
    go_wp2
    all_goals go_ret
    all_goals exact ⟨_, rfl, rfl, by simp [Ucd.valid]; omega⟩
  by_cases h2 : r > 1114111
  · go_enter Try.func67, Try.ntmps67
    go_wp2
    all_goals go_ret
    all_goals exact ⟨_, rfl, rfl, by simp [Ucd.valid]; omega⟩
  by_cases h3 : r ≥ 55296
  · by_cases h4 : r ≤ 57343
    · go_enter Try.func67, Try.ntmps67
      go_wp2
      all_goals go_ret
      all_goals exact ⟨_, rfl, rfl, by simp [Ucd.valid]; omega⟩
    · go_enter Try.func67, Try.ntmps67
      go_wp2
      all_goals go_ret
      all_goals exact ⟨_, rfl, rfl, by simp [Ucd.valid]; omega⟩
  · go_enter Try.func67, Try.ntmps67
    go_wp2
    all_goals go_ret
    all_goals exact ⟨_, rfl, rfl, by simp [Ucd.valid]; omega⟩
theorem find_step (r : Int) : ∀ (l : List Ucd.Rg) (i : Nat), i < l.length → Ucd.find (l.drop i) r = if Ucd.lo l i ≤ r ∧ r ≤ Ucd.hi l i then Ucd.cl l i else Ucd.find (l.drop (i + 1)) r := by
  intro l i h
  rw [List.drop_eq_getElem_cons h]
  have e : l.getD i (0, 0, 0) = l[i] := by simp [List.getD, List.getElem?_eq_getElem h]
  simp only [Ucd.find, Ucd.lo, Ucd.hi, Ucd.cl, e]
theorem rclass_any (r : Int) (w : World) (hr : (Lit.int .i32 r).wf = true) :
    Calls Try.prog 65 #[.int .i32 r] w fun e w' => e = .returned (.int .i64 (Ucd.cls r)) ∧ Below w.heap.size w w' := by
  have HS := hide (rsize_any r w hr)
  have hb := bounds_i32 hr
  clear hr
  cases hv : Ucd.valid r
  · have HC := hide (Ucd.cls_not hv)
    rw [hv] at HS
    go_enter Try.func65, Try.ntmps65
    go_wp2_with fail
    refine HS.out.mono ?_
    rintro e w1 ⟨n, rfl, rfl, hn⟩
    obtain rfl : n = 0 := hn.2 (by simp)
    clear hn hv
    go_wp2
    go_ret
    exact ⟨ret_int HC.out.symm, Below.refl _ _⟩
  · have HC : Hid (Ucd.cls r = Ucd.find (Ucd.rows.drop 0) r) := hide (by unfold Ucd.cls; rw [if_pos hv]; rfl)
    rw [hv] at HS
    go_enter Try.func65, Try.ntmps65
    go_wp2_with fail
    refine HS.out.mono ?_
    rintro e w1 ⟨n, rfl, rfl, hn⟩
    have hn0 : ¬ n = 0 := fun h => by have := hn.1 h; simp at this
    clear hn hv
    go_wp2_with fail
    refine (ranges_any w).mono ?_
    rintro e w2 ⟨b, rfl, hb2, hbb, hlt, hR⟩
    have HR := hide hR
    clear hR
    go_wp2_with fail
    go_loop [4] (fun s4 => ∃ i : Nat, s4 = .int .i64 i ∧ i ≤ 147 ∧ Hid (Ucd.cls r = Ucd.find (Ucd.rows.drop i) r)) (fun s4 => (147 - intOf s4).toNat)
    case atStart => exact ⟨0, rfl, by omega, HC⟩
    case round =>
      obtain ⟨i, rfl, hi, HI⟩ := hrel
      by_cases hlt2 : i < 147
      · obtain ⟨c0, c1, c2⟩ := HR.out.at hlt2
        have hst := find_step r Ucd.rows i (by rw [Ucd.rows_len]; exact hlt2)
        have hI : Ucd.cls r = if Ucd.lo Ucd.rows i ≤ r ∧ r ≤ Ucd.hi Ucd.rows i then Ucd.cl Ucd.rows i else Ucd.find (Ucd.rows.drop (i + 1)) r := HI.out.trans hst
        have hok := Ucd.rows_ok hlt2
        clear hst
        generalize Ucd.lo Ucd.rows i = L at *
        generalize Ucd.hi Ucd.rows i = H at *
        generalize Ucd.cl Ucd.rows i = C at *
        by_cases h1 : L ≤ r
        · by_cases h2 : r ≤ H
          · rw [if_pos ⟨h1, h2⟩] at hI
            have HX := hide hI
            clear hI
            go_wp2
            go_ret
            exact ⟨ret_int HX.out.symm, hb2⟩
          · rw [if_neg (fun h => h2 h.2)] at hI
            have HX := hide hI
            clear hI
            go_wp2
            go_round
            case rel => exact ⟨i + 1, by first | rfl | (congr 1), by omega, HX⟩
            case measure => simp [intOf]; omega
        · rw [if_neg (fun h => h1 h.1)] at hI
          have HX := hide hI
          clear hI
          go_wp2
          go_round
          case rel => exact ⟨i + 1, by first | rfl | (congr 1), by omega, HX⟩
          case measure => simp [intOf]; omega
      · obtain rfl : i = 147 := by omega
        have HX : Hid (Ucd.cls r = 1) := hide (by have := HI.out; rw [List.drop_of_length_le (by rw [Ucd.rows_len]; omega)] at this; exact this)
        go_wp2
        go_ret
        exact ⟨ret_int HX.out.symm, hb2⟩
end Go.Proofs.Yteiljaecaahonaa
