/- Same lists; works, among, all. -/
import Derived.Test.YteiljaecaahonaaSlc
import Derived.Test.YteiljaecaahonaaCat
import Derived.Test.YteiljaecaahonaaPara
import Derived.Deep.QuietTactic
import Derived.BigQuiet
namespace Go.Proofs.Yteiljaecaahonaa
open Go.RowKit
set_option linter.unusedVariables false
set_option maxRecDepth 100000
set_option maxHeartbeats 1000000 in
theorem same_yes (a0 a1 : Option Addr) (n c0 c1 : Nat) (l : List Int) (w : World) (h0 : Row .i32 w a0 n c0 l) (h1 : Row .i32 w a1 n c1 l) :
    Calls Try.prog 38 #[.slice a0 n c0, .slice a1 n c1] w fun e w' => e = .returned (.bool true) ∧ ∃ k, w' = w.drewN k := by
  have hx := h0.le
  have hm := h0.max
  unfold maxLen at hm
  have hl := h0.len
  have H0 := hide h0
  have H1 := hide h1
  have HL := hide hl
  clear h0 h1 hl
  go_enter Try.func38, Try.ntmps38
  go_wp2
  go_loopw [5] (fun i wr => ∃ k nq : Nat, k ≤ n ∧ i = .int .i64 k ∧ wr = w.drewN nq) (fun i _ => n - (intOf i).toNat)
  case atStart => exact ⟨0, 0, Nat.zero_le _, rfl, rfl⟩
  case round =>
    obtain ⟨k, nq, hk, rfl, rfl⟩ := hrel
    by_cases hlt : k < n
    · obtain ⟨b0, o0, rfl, _, hc0⟩ := H0.out.cells (by omega)
      obtain ⟨b1, o1, rfl, _, hc1⟩ := H1.out.cells (by omega)
      have g0 := hc0 k (by have := HL.out; omega)
      have g1 := hc1 k (by have := HL.out; omega)
      clear hc0 hc1
      generalize l.getD k 0 = x at *
      have hlt' : (k : Int) < (n : Int) := by omega
      go_wp2
      go_quiet (fail)
      go_wp2
      go_roundw
      case rel => exact ⟨k + 1, _, by omega, by go_num, by first | rfl | exact World.drewN_drewN _ _ _⟩
      case measure => simp [intOf]; omega
    · go_wp2
      go_ret
      exact ⟨rfl, _, rfl⟩
set_option maxHeartbeats 2000000
theorem among_any (x : Int) (n : Nat) (w : World) (hx : (Lit.int .i64 x).wf = true) (h0 : 0 < n) (hn : n ≤ 4611686018427387904) :
    ∃ k : Nat, k < n ∧ Calls Try.prog 25 #[.int .i64 x, .int .i64 (n : Int)] w fun e w' => e = .returned (.int .i64 (k : Int)) ∧ w = w' := by
  have hx1 := bounds_i64 hx
  obtain ⟨r, hr⟩ : ∃ r, x.tmod (n : Int) = r := ⟨_, rfl⟩
  have hr1 : -(n : Int) < r := by rw [← hr]; exact Int.lt_tmod_of_pos x (by omega)
  have hr2 : r < (n : Int) := by rw [← hr]; exact Int.tmod_lt_of_pos x (by omega)
  obtain ⟨q, hq⟩ : ∃ q, r + (n : Int) = q := ⟨_, rfl⟩
  have hq0 : 0 ≤ q := by omega
  obtain ⟨k, hk⟩ : ∃ k : Nat, q.tmod (n : Int) = (k : Int) := ⟨(q.tmod (n : Int)).toNat, by rw [Int.toNat_of_nonneg (Int.tmod_nonneg _ hq0)]⟩
  have hkn : (k : Int) < (n : Int) := by rw [← hk]; exact Int.tmod_lt_of_pos q (by omega)
  refine ⟨k, by omega, ?_⟩
  have b1 : -9223372036854775808 ≤ r ∧ r ≤ 9223372036854775807 := by omega
  have b2 : -9223372036854775808 ≤ q ∧ q ≤ 9223372036854775807 := by omega
  have b3 : -9223372036854775808 ≤ (k : Int) ∧ (k : Int) ≤ 9223372036854775807 := by omega
  have e1 : wrap64 r = r := w64_small b1.1 b1.2
  have e2 : wrap64 (r + (n : Int)) = q := by rw [hq]; exact w64_small b2.1 b2.2
  have e3 : wrap64 (k : Int) = (k : Int) := w64_small b3.1 b3.2
  have hn0 : ¬ ((n : Int) = 0) := by omega
  have hn1 : ¬ ((n : Int) = -1) := by omega
  clear hx hx1 h0 hn hr1 hr2 hq hq0 hkn b1 b2 b3
  go_enter Try.func25, Try.ntmps25
  go_wp2
  go_ret
  exact ⟨rfl, rfl⟩
theorem wf32 {x : Int} (h1 : -2147483648 ≤ x) (h2 : x ≤ 2147483647) : (Lit.int .i32 x).wf = true := WalkArith.wf_i32 ⟨h1, h2⟩
theorem works_any (w : World) : Calls Try.prog 24 #[] w fun e w' => e = .returned (.bool true) ∧ Below w.heap.size w w' := by
  have hk1 : KO w (w.alloc (.cells #[.int .i32 97, .int .i32 98, .int .i32 8233, .int .i32 99] 21)) := KO.alloc (KO.refl _) _
  have HN := hide (new_any (some ⟨w.heap.size, 0, none⟩) 4 4 [97, 98, 8233, 99] _ (row_lit .i32 w [97, 98, 8233, 99] 21 (by decide)) (by decide) (by omega))
  go_enter Try.func24, Try.ntmps24
  go_wp2_with fail
  refine HN.out.mono ?_
  rintro e w1 ⟨b, t, rfl, hr, hl, hb1⟩
  have hsz : t.size = 4 := by unfold Tr.size; rw [hl]; rfl
  have hbk : t.brk = 1 := by unfold Tr.brk; rw [hl]; decide +kernel
  have kk1 : KO w w1 := KO.on hk1 hb1
  have HL := hide (Len_rope b t w1 hr)
  have HB := hide (Breaks_rope b t w1 hr)
  have HP := hide (Para_ok b t 2 w1 hr (by omega) (by omega))
  rw [hl] at HP
  rw [show seps (List.take 2 [97, 98, 8233, 99]) = 0 from by decide +kernel, show bh [97, 98, 8233, 99] 0 = 0 from rfl, show bh [97, 98, 8233, 99] (0 + 1) = 3 from by decide +kernel] at HP
  rw [hsz] at HL
  rw [hbk] at HB
  have HR := hide hr
  have HSZ := hide hsz
  clear hr hl hb1 hsz hbk
  go_wp2_with (first
    | (go_at_call 20; refine HL.out.mono ?_; rintro e w' ⟨rfl, rfl⟩)
    | (go_at_call 21; refine HB.out.mono ?_; rintro e w' ⟨rfl, rfl⟩))
  refine HP.out.mono ?_
  rintro e w2 ⟨rfl, hb2⟩
  have HI := hide (Insert_ok b t 1 (some ⟨w2.heap.size, 0, none⟩) 2 2 [120, 121] (w2.alloc (.cells #[.int .i32 120, .int .i32 121] 21)) ((HR.out.below hb2).below ((Below.refl _ _).alloc (Nat.le_refl _) _)) (row_lit .i32 w2 [120, 121] 21 (by decide)) (by decide) (by omega) (by have := HSZ.out; omega) (by have := HSZ.out; omega))
  have kk2 : KO w w2 := KO.on kk1 hb2
  have HR2 := hide ((HR.out.below hb2).below ((Below.refl _ _).alloc (Nat.le_refl _) (.cells #[.int .i32 120, .int .i32 121] 21)))
  clear hb2
  go_wp2_with fail
  refine HI.out.mono ?_
  rintro e w3 ⟨b3, t3, rfl, hr3, hl3, hb3⟩
  have hs3 : t3.size = 6 := by
    have := HSZ.out
    unfold Tr.size at this ⊢
    rw [hl3, List.append_assoc, List.length_append, List.length_append, List.length_take, List.length_drop]
    simp; omega
  have kk3 : KO w w3 := KO.on (KO.alloc kk2 _) hb3
  have HL3 := hide (Len_rope b3 t3 w3 hr3)
  have HL4 := hide (Len_rope b t w3 (HR2.out.below hb3))
  rw [hs3] at HL3
  rw [HSZ.out] at HL4
  clear hr3 hl3 hb3 hs3
  go_wp2_with (first
    | (go_at_call_of 20 b3; refine HL3.out.mono ?_; rintro e w' ⟨rfl, rfl⟩)
    | (go_at_call_of 20 b; refine HL4.out.mono ?_; rintro e w' ⟨rfl, rfl⟩))
  go_ret
  exact ⟨rfl, kk3⟩
end Go.Proofs.Yteiljaecaahonaa
