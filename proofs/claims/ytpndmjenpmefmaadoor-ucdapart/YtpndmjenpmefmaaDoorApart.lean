/- The walk of UcdApart. -/
import Derived.Test.YtpndmjenpmefmaaDoorMirr
import Derived.WalkKit
import Derived.WalkSpells
import Derived.WalkLawsBesides
import Derived.Outline
import Derived.Deep.QuietTactic
import Derived.BigQuiet
import Derived.Deep.Cut
import Derived.Deep.CutRange
namespace Go.Proofs.YtpndmjenpmefmaaDoor
open Go.RowKit Go.Maps
set_option linter.unusedVariables false
set_option maxHeartbeats 2000000
set_option maxRecDepth 100000
theorem lo_after : ∀ (l : List Ucd.Rg) (last : Int) (i j : Nat), Ucd.rises last l = true → i < j → j < l.length → Ucd.hi l i < Ucd.lo l j
  | [], _, _, j, _, _, hj => by simp at hj
  | p :: t, last, i, j, h, hij, hj => by
    simp only [Ucd.rises, Bool.and_eq_true, decide_eq_true_eq] at h
    match i, j with
    | _, 0 => omega
    | 0, j + 1 =>
      rw [Ucd.lo_succ]
      have := Ucd.row_ok t p.2.1 j h.2 (by simpa using hj)
      exact this.1
    | i + 1, j + 1 =>
      rw [Ucd.lo_succ, Ucd.hi_succ]
      exact lo_after t p.2.1 i j h.2 (by omega) (by simpa using hj)
theorem rows_after {i j : Nat} (h : i < j) (hj : j < 147) : Ucd.hi Ucd.rows i < Ucd.lo Ucd.rows j := lo_after Ucd.rows (-1) i j Ucd.rows_rise h (by rw [Ucd.rows_len]; exact hj)
theorem find_here (r : Int) {i : Nat} (h : i < 147) : Ucd.find (Ucd.rows.drop i) r = if Ucd.lo Ucd.rows i ≤ r ∧ r ≤ Ucd.hi Ucd.rows i then Ucd.cl Ucd.rows i else Ucd.find (Ucd.rows.drop (i + 1)) r := by
  have hl : i < Ucd.rows.length := by rw [Ucd.rows_len]; exact h
  rw [List.drop_eq_getElem_cons hl]
  have e : Ucd.rows.getD i (0, 0, 0) = Ucd.rows[i] := by simp [List.getD, List.getElem?_eq_getElem hl]
  simp only [Ucd.find, Ucd.lo, Ucd.hi, Ucd.cl, e]
/-- What is known of a valid number behind the first i rows: none has it as yet, or one has, and no later one will. -/
def Seen (r : Int) (i : Nat) (c : Int) : Prop := (c = 1 ∧ Ucd.cls r = Ucd.find (Ucd.rows.drop i) r) ∨ (1 ≤ c ∧ c = Ucd.cls r ∧ ∀ j, i ≤ j → j < 147 → ¬ (Ucd.lo Ucd.rows j ≤ r ∧ r ≤ Ucd.hi Ucd.rows j))
theorem Seen.one {r : Int} {i : Nat} {c : Int} (h : Seen r i c) : 1 ≤ c := by rcases h with ⟨h, _⟩ | ⟨h, _⟩ <;> omega
theorem Seen.hit {r : Int} {i : Nat} {c : Int} (h : Seen r i c) (hi : i < 147) (hm : Ucd.lo Ucd.rows i ≤ r ∧ r ≤ Ucd.hi Ucd.rows i) : Seen r (i + 1) (Ucd.cl Ucd.rows i) := by
  rcases h with ⟨_, h2⟩ | ⟨_, _, h3⟩
  · rw [find_here r hi, if_pos hm] at h2
    refine .inr ⟨(Ucd.rows_ok hi).2.2.2.1, h2.symm, fun j hj hj2 hx => ?_⟩
    have := rows_after (i := i) (j := j) (by omega) hj2
    omega
  · exact absurd hm (h3 i (Nat.le_refl _) hi)
theorem Seen.miss {r : Int} {i : Nat} {c : Int} (h : Seen r i c) (hi : i < 147) (hm : ¬ (Ucd.lo Ucd.rows i ≤ r ∧ r ≤ Ucd.hi Ucd.rows i)) : Seen r (i + 1) c := by
  rcases h with ⟨h1, h2⟩ | ⟨h1, h2, h3⟩
  · rw [find_here r hi, if_neg hm] at h2
    exact .inl ⟨h1, h2⟩
  · exact .inr ⟨h1, h2, fun j hj hj2 => h3 j (by omega) hj2⟩
theorem Seen.done {r : Int} {c : Int} (h : Seen r 147 c) : c = Ucd.cls r := by
  rcases h with ⟨h1, h2⟩ | ⟨_, h2, _⟩
  · rw [List.drop_of_length_le (by rw [Ucd.rows_len]; omega)] at h2
    rw [h1, h2]; rfl
  · exact h2
theorem below_drewN {B n : Nat} {w w' : World} (h : Below B w w') : Below B w (w'.drewN n) := ⟨h.os, h.tape, h.output, h.size, h.block⟩
theorem cells_of_list {w : World} {b : Nat} {t : TypeId} (hg : w.heap[b]? = some (.cells tableCells t (0, 0))) : TabAt w b := fun j hj => by
  unfold World.cell?
  rw [hg]
  rfl
theorem UcdApart_walk (w : World) (hm : Marks w) (r : Int) (hr : (Lit.int .i32 r).wf = true) : Calls Tryd.prog 4 #[.int .i32 r] w fun e w' => e = .returned (.bool true) ∧ Below w.heap.size w w' := by
  have HR := hide hr
  have HM := hide hm
  clear hr hm
  cases hv : Ucd.valid r
  · have HC := hide (Ucd.cls_not hv)
    have hx : r < 0 ∨ (¬ r < 0 ∧ r > 1114111) ∨ (¬ r < 0 ∧ ¬ r > 1114111 ∧ r ≥ 55296 ∧ r ≤ 57343) := by
      simp [Ucd.valid] at hv
      omega
    clear hv
    go_enter Tryd.func4, Tryd.ntmps4
    go_wp2_with fail
    refine (ranges3_any w).mono ?_
    rintro e w1 ⟨b, rfl, hb1, hbl, hg⟩
    have HM1 := hide (HM.out.below hb1)
    have hltb : b < w1.heap.size := (Array.getElem?_eq_some_iff.1 hg).1
    go_wp2_with fail
    refine (works_any w1 HM1.out).mono ?_
    rintro e w2 ⟨rfl, hb2⟩
    have HL := hide (TabAt.mono (cells_of_list hg) hb2 hltb)
    have HB := hide (hb1.trans (hb2.mono hb1.size))
    have hlt2 : b < w2.heap.size := Nat.lt_of_lt_of_le hltb hb2.size
    clear hg hb1 hb2 HM1 hltb
    go_upto_region 5 with fail
    go_cut [27] from 14 to 27 (fun s27 wx => s27 = .bool true ∧ w2 = wx)
    case first =>
      rcases hx with h1 | ⟨h1, h2⟩ | ⟨h1, h2, h3, h4⟩
      all_goals
        go_wp2
        go_meet
        exact ⟨rfl, rfl⟩
    obtain ⟨rfl, rfl⟩ := hcut
    go_wp2_with fail
    go_loopw [4, 5] (fun s4 s5 wr => ∃ i : Nat, s4 = .int .i64 0 ∧ s5 = .int .i64 i ∧ i ≤ 147 ∧ Below w2.heap.size w2 wr) (fun _ s5 _ => (147 - intOf s5).toNat)
    case atStart => exact ⟨0, rfl, rfl, by omega, Below.refl _ _⟩
    case round =>
      obtain ⟨i, rfl, rfl, hi, hbi⟩ := hrel
      by_cases hi2 : i < 147
      · obtain ⟨c0, c1, c2⟩ := (HL.out.mono hbi hlt2).at hi2
        have hok := Ucd.rows_ok hi2
        have hiI : (i : Int) < 147 := by omega
        rcases Nat.eq_zero_or_pos i with h0 | hpos
        · subst h0
          generalize Ucd.lo Ucd.rows 0 = L at *
          generalize Ucd.hi Ucd.rows 0 = H at *
          generalize Ucd.cl Ucd.rows 0 = C at *
          simp only [Nat.zero_mul, Nat.zero_add] at c0 c1 c2
          have k1 : decide (H < L) = false := decide_eq_false (by omega)
          have k2 : decide (C < 1) = false := decide_eq_false (by omega)
          have k3 : decide (23 < C) = false := decide_eq_false (by omega)
          go_wp2_with fail
          go_quiet (fail)
          go_wp2
          exact ⟨⟨1, rfl, by first | rfl | (congr 1), by omega, below_drewN hbi⟩, by simp [intOf]⟩
        · obtain ⟨m, rfl⟩ : ∃ m, i = m + 1 := ⟨i - 1, by omega⟩
          have c3 := ((HL.out.mono hbi hlt2).at (show m < 147 by omega)).2.1
          have hpr := rows_after (i := m) (j := m + 1) (by omega) hi2
          generalize Ucd.lo Ucd.rows (m + 1) = L at *
          generalize Ucd.hi Ucd.rows (m + 1) = H at *
          generalize Ucd.cl Ucd.rows (m + 1) = C at *
          generalize Ucd.hi Ucd.rows m = H' at *
          have k1 : decide (H < L) = false := decide_eq_false (by omega)
          have k2 : decide (C < 1) = false := decide_eq_false (by omega)
          have k3 : decide (23 < C) = false := decide_eq_false (by omega)
          have k4 : decide (L ≤ H') = false := decide_eq_false (by omega)
          have k5 : decide ((0 : Int) < (m : Int) + 1) = true := decide_eq_true (by omega)
          clear hpr
          go_wp2_with fail
          go_quiet (fail)
          go_wp2
          exact ⟨⟨m + 2, rfl, by congr 1, by omega, below_drewN hbi⟩, by simp [intOf]; omega⟩
      · obtain rfl : i = 147 := by omega
        have HB2 := hide (HB.out.trans (hbi.mono HB.out.size))
        go_wp2_with fail
        refine (class_any r wr HR.out).mono ?_
        rintro e w3 ⟨rfl, hb3⟩
        rw [HC.out]
        go_wp2
        go_ret
        exact ⟨rfl, HB2.out.trans (hb3.mono HB2.out.size)⟩
  · have hx : (¬ r < 0 ∧ ¬ r > 1114111 ∧ ¬ r ≥ 55296) ∨ (¬ r < 0 ∧ ¬ r > 1114111 ∧ r ≥ 55296 ∧ ¬ r ≤ 57343) := by
      simp [Ucd.valid] at hv
      omega
    have HC0 : Hid (Seen r 0 1) := hide (.inl ⟨rfl, by unfold Ucd.cls; rw [if_pos hv]; rfl⟩)
    clear hv
    go_enter Tryd.func4, Tryd.ntmps4
    go_wp2_with fail
    refine (ranges3_any w).mono ?_
    rintro e w1 ⟨b, rfl, hb1, hbl, hg⟩
    have HM1 := hide (HM.out.below hb1)
    have hltb : b < w1.heap.size := (Array.getElem?_eq_some_iff.1 hg).1
    go_wp2_with fail
    refine (works_any w1 HM1.out).mono ?_
    rintro e w2 ⟨rfl, hb2⟩
    have HL := hide (TabAt.mono (cells_of_list hg) hb2 hltb)
    have HB := hide (hb1.trans (hb2.mono hb1.size))
    have hlt2 : b < w2.heap.size := Nat.lt_of_lt_of_le hltb hb2.size
    clear hg hb1 hb2 HM1 hltb
    go_upto_region 5 with fail
    go_cut [27] from 14 to 27 (fun s27 wx => s27 = .bool false ∧ w2 = wx)
    case first =>
      rcases hx with ⟨h1, h2, h3⟩ | ⟨h1, h2, h3, h4⟩
      all_goals
        go_wp2
        go_meet
        exact ⟨by congr 1; simp; omega, rfl⟩
    obtain ⟨rfl, rfl⟩ := hcut
    go_wp2_with fail
    go_loopw [4, 5] (fun s4 s5 wr => ∃ (i : Nat) (c : Int), s4 = .int .i64 c ∧ s5 = .int .i64 i ∧ i ≤ 147 ∧ Below w2.heap.size w2 wr ∧ Hid (Seen r i c)) (fun _ s5 _ => (147 - intOf s5).toNat)
    case atStart => exact ⟨0, 1, rfl, rfl, by omega, Below.refl _ _, HC0⟩
    case round =>
      obtain ⟨i, c, rfl, rfl, hi, hbi, HS⟩ := hrel
      by_cases hi2 : i < 147
      · obtain ⟨c0, c1, c2⟩ := (HL.out.mono hbi hlt2).at hi2
        have hok := Ucd.rows_ok hi2
        have hiI : (i : Int) < 147 := by omega
        rcases Nat.eq_zero_or_pos i with h0 | hpos
        · subst h0
          have HH := hide (fun h => HS.out.hit hi2 h)
          have HN := hide (fun h => HS.out.miss hi2 h)
          have hc1 : 1 ≤ c := HS.out.one
          clear HS
          generalize Ucd.lo Ucd.rows 0 = L at *
          generalize Ucd.hi Ucd.rows 0 = H at *
          generalize Ucd.cl Ucd.rows 0 = C at *
          simp only [Nat.zero_mul, Nat.zero_add] at c0 c1 c2
          have k1 : decide (H < L) = false := decide_eq_false (by omega)
          have k2 : decide (C < 1) = false := decide_eq_false (by omega)
          have k3 : decide (23 < C) = false := decide_eq_false (by omega)
          by_cases hl : L ≤ r
          · by_cases hh : r ≤ H
            · have HX := hide (HH.out ⟨hl, hh⟩)
              go_wp2_with fail
              go_quiet (fail)
              go_wp2
              exact ⟨⟨1, C, rfl, by first | rfl | (congr 1), by omega, below_drewN hbi, HX⟩, by simp [intOf]⟩
            · have HX := hide (HN.out (fun h => hh h.2))
              go_wp2_with fail
              go_quiet (fail)
              go_wp2
              exact ⟨⟨1, c, rfl, by first | rfl | (congr 1), by omega, below_drewN hbi, HX⟩, by simp [intOf]⟩
          · have HX := hide (HN.out (fun h => hl h.1))
            go_wp2_with fail
            go_quiet (fail)
            go_wp2
            exact ⟨⟨1, c, rfl, by first | rfl | (congr 1), by omega, below_drewN hbi, HX⟩, by simp [intOf]⟩
        · obtain ⟨m, rfl⟩ : ∃ m, i = m + 1 := ⟨i - 1, by omega⟩
          have c3 := ((HL.out.mono hbi hlt2).at (show m < 147 by omega)).2.1
          have hpr := rows_after (i := m) (j := m + 1) (by omega) hi2
          have HH := hide (fun h => HS.out.hit hi2 h)
          have HN := hide (fun h => HS.out.miss hi2 h)
          have hc1 : 1 ≤ c := HS.out.one
          clear HS
          generalize Ucd.lo Ucd.rows (m + 1) = L at *
          generalize Ucd.hi Ucd.rows (m + 1) = H at *
          generalize Ucd.cl Ucd.rows (m + 1) = C at *
          generalize Ucd.hi Ucd.rows m = H' at *
          have k1 : decide (H < L) = false := decide_eq_false (by omega)
          have k2 : decide (C < 1) = false := decide_eq_false (by omega)
          have k3 : decide (23 < C) = false := decide_eq_false (by omega)
          have k4 : decide (L ≤ H') = false := decide_eq_false (by omega)
          have k5 : decide ((0 : Int) < (m : Int) + 1) = true := decide_eq_true (by omega)
          clear hpr
          by_cases hl : L ≤ r
          · by_cases hh : r ≤ H
            · have HX := hide (HH.out ⟨hl, hh⟩)
              go_wp2_with fail
              go_quiet (fail)
              go_wp2
              exact ⟨⟨m + 2, C, rfl, by congr 1, by omega, below_drewN hbi, HX⟩, by simp [intOf]; omega⟩
            · have HX := hide (HN.out (fun h => hh h.2))
              go_wp2_with fail
              go_quiet (fail)
              go_wp2
              exact ⟨⟨m + 2, c, rfl, by congr 1, by omega, below_drewN hbi, HX⟩, by simp [intOf]; omega⟩
          · have HX := hide (HN.out (fun h => hl h.1))
            go_wp2_with fail
            go_quiet (fail)
            go_wp2
            exact ⟨⟨m + 2, c, rfl, by congr 1, by omega, below_drewN hbi, HX⟩, by simp [intOf]; omega⟩
      · obtain rfl : i = 147 := by omega
        have HD := hide HS.out.done
        have HB2 := hide (HB.out.trans (hbi.mono HB.out.size))
        go_wp2_with fail
        refine (class_any r wr HR.out).mono ?_
        rintro e w3 ⟨rfl, hb3⟩
        rw [← HD.out]
        go_wp2
        go_ret
        exact ⟨rfl, HB2.out.trans (hb3.mono HB2.out.size)⟩
end Go.Proofs.YtpndmjenpmefmaaDoor
