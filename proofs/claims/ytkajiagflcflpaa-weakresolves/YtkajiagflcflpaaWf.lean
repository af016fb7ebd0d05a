/- Step, Resolve. -/
import Derived.Test.YtkajiagflcflpaaWd
namespace Go.Proofs.Ytkajiagflcflpaa
open Go.RowKit
set_option linter.unusedVariables false
set_option maxHeartbeats 1000000
set_option maxRecDepth 100000
theorem resolve_side (ao : Option Addr) (n cap : Nat) (s : Int) (w : World) (hs : ¬ We.Side s) :
    Calls Try.prog 13 #[.slice ao n cap, .int .i64 s] w fun e w' => e = .returned (.tuple #[.slice none 0 0, .int .i64 2]) ∧ KO w w' := by
  have HR := hide (rules_any w)
  have HB := hide (fun v w' => behind_side ao n cap s v w' hs)
  clear hs
  go_enter Try.func13, Try.ntmps13
  go_wp2_with fail
  refine HR.out.mono ?_
  rintro e w1 ⟨rfl, hf, hk⟩
  have HK := hide hk
  clear hf hk
  go_wp2_with fail
  refine (HB.out _ _).mono ?_
  rintro e w2 ⟨rfl, rfl⟩
  go_wp2
  go_ret2
  exact ⟨rfl, HK.out⟩
theorem resolve_form (ao : Option Addr) (n cap : Nat) (s : Int) (c : List Int) (w : World) (h : Row .i64 w ao n cap c) (hn : n ≤ 17592186044416) (hs : We.Side s) (hb : ¬ We.Ok c) :
    Calls Try.prog 13 #[.slice ao n cap, .int .i64 s] w fun e w' => e = .returned (.tuple #[.slice none 0 0, .int .i64 50]) ∧ KO w w' := by
  have HR := hide (rules_any w)
  have HB := hide (fun v w' (hk : KO w w') => behind_form ao n cap s v c w' (h.below hk) hn hs hb)
  clear hs hb h
  go_enter Try.func13, Try.ntmps13
  go_wp2_with fail
  refine HR.out.mono ?_
  rintro e w1 ⟨rfl, hf, hk⟩
  have HK := hide hk
  clear hf hk
  go_wp2_with fail
  refine (HB.out _ _ HK.out).mono ?_
  rintro e w2 ⟨rfl, rfl⟩
  go_wp2
  go_ret2
  exact ⟨rfl, HK.out⟩
/-- A row that the call has made. -/
structure New (w : World) (ao : Option Addr) (n cap : Nat) (zs : List Int) (w' : World) : Prop where
  row : Row .i64 w' ao n cap zs
  bel : KO w w'
theorem resolve_ok (ao : Option Addr) (n cap : Nat) (s : Int) (c : List Int) (w : World) (h : Row .i64 w ao n cap c) (hn : n * 8 ≤ 140737488351232) (hs : We.Side s) (hb : We.Ok c) :
    Calls Try.prog 13 #[.slice ao n cap, .int .i64 s] w fun e w' => ∃ g, e = .returned (.tuple #[.slice (some ⟨g, 0, none⟩) n n, .int .i64 0]) ∧ New w (some ⟨g, 0, none⟩) n n (We.RR s c 7) w' := by
  have HR := hide (rules_any w)
  have HB := hide (fun w' (hk : KO w w') (hf : FC w' w.heap.size) => behind_ok ao n cap s w.heap.size 0 7 7 c w' (h.below hk) hn hs hb hf (by omega))
  clear hs hb h
  go_enter Try.func13, Try.ntmps13
  go_wp2_with fail
  refine HR.out.mono ?_
  rintro e w1 ⟨rfl, hf, hk⟩
  have HB2 := hide (HB.out w1 hk hf)
  have HK := hide hk
  clear hf hk HB HR
  go_wp2_with fail
  refine HB2.out.mono ?_
  rintro e w2 ⟨rfl, hO⟩
  have HN := hide (show New w (some ⟨w1.heap.size, 0, none⟩) n n (We.RR s c 7) w2 from ⟨by rw [← RF_zero]; exact hO.row, KO.on HK.out hO.bel⟩)
  clear hO HB2
  go_wp2
  go_ret2
  exact ⟨_, rfl, HN.out⟩
theorem step_rule (ao : Option Addr) (n cap : Nat) (s r : Int) (w : World) (hr : ¬ (1 ≤ r ∧ r ≤ 7)) :
    Calls Try.prog 10 #[.slice ao n cap, .int .i64 s, .int .i64 r] w fun e w' => e = .returned (.tuple #[.slice none 0 0, .int .i64 2]) ∧ KO w w' := by
  have HR := hide (rules_any w)
  have hr' : r < 1 ∨ (¬ r < 1 ∧ 7 < r) := by omega
  clear hr
  rcases hr' with h1 | ⟨h1, h2⟩
  all_goals
    go_enter Try.func10, Try.ntmps10
    go_wp2_with fail
    refine HR.out.mono ?_
    rintro e w1 ⟨rfl, hf, hk⟩
    have HK := hide hk
    clear hf hk
    go_wp2
    go_ret2
    exact ⟨rfl, HK.out⟩
theorem cellsStep : Try.prog.cellsOf 41 = 1 := by kernel_rfl
theorem infoStep : ∃ i, Try.prog.info? 41 = some i := by
  cases h : Try.prog.info? 41 with
  | none => have : (Try.prog.info? 41).isSome = true := by kernel_rfl
            rw [h] at this; cases this
  | some i => exact ⟨i, rfl⟩
theorem step_cut (b : Nat) (j : Nat) (hj : j < 7) (w : World) : (Instr.slice 34 (.slice (some ⟨b, 0, none⟩) 7 7) (some (.int .i64 (j : Int))) (some (.int .i64 ((j : Int) + 1))) none).run Try.prog w = .ok (.slice (some ⟨b, j, none⟩) 1 (7 - j)) w := by
  obtain ⟨i, hi⟩ := infoStep
  have h := run_mid Try.underlying34 hi cellsStep (some ⟨b, 0, none⟩) 7 7 j (j + 1) (by omega) (by omega) w
  have htl : tl (some ⟨b, 0, none⟩) 7 j = some ⟨b, j, none⟩ := by
    unfold tl
    rw [if_neg (by omega)]
    simp only [Option.map_some, Option.some.injEq]
    unfold Addr.add
    split <;> simp_all
  rw [htl, show j + 1 - j = 1 by omega] at h
  exact h
theorem step_side (ao : Option Addr) (n cap : Nat) (s : Int) (j : Nat) (hj : j < 7) (w : World) (hs : ¬ We.Side s) :
    Calls Try.prog 10 #[.slice ao n cap, .int .i64 s, .int .i64 ((j : Int) + 1)] w fun e w' => e = .returned (.tuple #[.slice none 0 0, .int .i64 2]) ∧ KO w w' := by
  have HR := hide (rules_any w)
  have HB := hide (fun v w' => behind_side ao n cap s v w' hs)
  have hsl := fun w' => step_cut w.heap.size j hj w'
  have h1 : ¬ (j : Int) + 1 < 1 := by omega
  have h2 : ¬ 7 < (j : Int) + 1 := by omega
  clear hs
  generalize 7 - j = c7 at *
  go_enter Try.func10, Try.ntmps10
  go_wp2_with fail
  refine HR.out.mono ?_
  rintro e w1 ⟨rfl, hf, hk⟩
  have HK := hide hk
  clear hf hk
  go_wp2_with fail
  refine (HB.out _ _).mono ?_
  rintro e w2 ⟨rfl, rfl⟩
  go_wp2
  go_ret2
  exact ⟨rfl, HK.out⟩
theorem step_form (ao : Option Addr) (n cap : Nat) (s : Int) (j : Nat) (hj : j < 7) (c : List Int) (w : World) (h : Row .i64 w ao n cap c) (hn : n ≤ 17592186044416) (hs : We.Side s) (hb : ¬ We.Ok c) :
    Calls Try.prog 10 #[.slice ao n cap, .int .i64 s, .int .i64 ((j : Int) + 1)] w fun e w' => e = .returned (.tuple #[.slice none 0 0, .int .i64 50]) ∧ KO w w' := by
  have HR := hide (rules_any w)
  have HB := hide (fun v w' (hk : KO w w') => behind_form ao n cap s v c w' (h.below hk) hn hs hb)
  have hsl := fun w' => step_cut w.heap.size j hj w'
  have h1 : ¬ (j : Int) + 1 < 1 := by omega
  have h2 : ¬ 7 < (j : Int) + 1 := by omega
  clear hs hb h
  generalize 7 - j = c7 at *
  go_enter Try.func10, Try.ntmps10
  go_wp2_with fail
  refine HR.out.mono ?_
  rintro e w1 ⟨rfl, hf, hk⟩
  have HK := hide hk
  clear hf hk
  go_wp2_with fail
  refine (HB.out _ _ HK.out).mono ?_
  rintro e w2 ⟨rfl, rfl⟩
  go_wp2
  go_ret2
  exact ⟨rfl, HK.out⟩
theorem step_ok (ao : Option Addr) (n cap : Nat) (s : Int) (j : Nat) (hj : j < 7) (c : List Int) (w : World) (h : Row .i64 w ao n cap c) (hn : n * 8 ≤ 140737488351232) (hs : We.Side s) (hb : We.Ok c) :
    Calls Try.prog 10 #[.slice ao n cap, .int .i64 s, .int .i64 ((j : Int) + 1)] w fun e w' => ∃ g, e = .returned (.tuple #[.slice (some ⟨g, 0, none⟩) n n, .int .i64 0]) ∧ New w (some ⟨g, 0, none⟩) n n (We.R (j + 1) s c) w' := by
  have HR := hide (rules_any w)
  have HB := hide (fun c7 w' (hk : KO w w') (hf : FC w' w.heap.size) => behind_ok ao n cap s w.heap.size j 1 c7 c w' (h.below hk) hn hs hb hf (by omega))
  have hsl := fun w' => step_cut w.heap.size j hj w'
  have h1 : ¬ (j : Int) + 1 < 1 := by omega
  have h2 : ¬ 7 < (j : Int) + 1 := by omega
  clear hs hb h
  generalize 7 - j = c7 at *
  go_enter Try.func10, Try.ntmps10
  go_wp2_with fail
  refine HR.out.mono ?_
  rintro e w1 ⟨rfl, hf, hk⟩
  have HB2 := hide (HB.out c7 w1 hk hf)
  have HK := hide hk
  clear hf hk HB HR
  go_wp2_with fail
  refine HB2.out.mono ?_
  rintro e w2 ⟨rfl, hO⟩
  have HN := hide (show New w (some ⟨w1.heap.size, 0, none⟩) n n (We.R (j + 1) s c) w2 from ⟨hO.row, KO.on HK.out hO.bel⟩)
  clear hO HB2
  go_wp2
  go_ret2
  exact ⟨_, rfl, HN.out⟩
end Go.Proofs.Ytkajiagflcflpaa
