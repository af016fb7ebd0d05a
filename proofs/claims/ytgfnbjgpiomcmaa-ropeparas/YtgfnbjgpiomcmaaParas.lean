/- RopeParas: paragraphs follow one another and are all of the text. -/
import Derived.Test.YtgfnbjgpiomcmaaWk
namespace Go.Proofs.Ytgfnbjgpiomcmaa
open Go.RowKit
set_option linter.unusedVariables false
set_option maxHeartbeats 4000000
set_option maxRecDepth 100000
theorem seps_take_bh (l : List Int) (k : Nat) (h : k ≤ seps l) : seps (l.take (bh l k)) = k := by
  induction l generalizing k with
  | nil => simp at h; subst h; simp
  | cons x l ih =>
    rcases Nat.eq_zero_or_pos k with h0 | h0
    · subst h0; simp
    · rw [bh_cons _ _ _ h0, List.take_succ_cons, seps_cons, ih]
      · have := sep_le x; omega
      · rw [seps_cons] at h; omega
theorem bh_end (l : List Int) (k : Nat) (h : seps l < k) : bh l k = l.length := by
  induction l generalizing k with
  | nil => simp
  | cons x l ih =>
    rw [seps_cons] at h
    rw [bh_cons _ _ _ (by omega), ih _ (by omega), List.length_cons]
theorem seps_take_lt (l : List Int) (i k : Nat) (h : i < bh l (k + 1)) : seps (l.take i) ≤ k := by
  induction l generalizing i k with
  | nil => simp at h
  | cons x l ih =>
    cases i with
    | zero => simp
    | succ i =>
      rw [bh_cons _ _ _ (by omega)] at h
      rw [List.take_succ_cons, seps_cons]
      rcases (by have := sep_le x; omega : sep x = 0 ∨ sep x = 1) with h1 | h1
      · rw [h1] at h ⊢
        have := ih i k (by simpa using h)
        omega
      · rw [h1] at h ⊢
        cases k with
        | zero => simp at h
        | succ k =>
          have := ih i k (by simpa using h)
          omega
theorem seps_take_mono (l : List Int) {i j : Nat} (h : i ≤ j) : seps (l.take i) ≤ seps (l.take j) := by
  obtain ⟨d, rfl⟩ := Nat.le.dest h
  rw [List.take_add, seps_append]; omega
theorem seps_take_le (l : List Int) (i : Nat) : seps (l.take i) ≤ seps l := by
  have := seps_append (l.take i) (l.drop i)
  rw [List.take_append_drop] at this
  omega
/-- Within a paragraph so many separators stand ahead. -/
theorem seps_within (l : List Int) (i k : Nat) (hk : k ≤ seps l) (h1 : bh l k ≤ i) (h2 : i < bh l (k + 1)) : seps (l.take i) = k := by
  have a := seps_take_lt l i k h2
  have b := seps_take_mono l h1
  rw [seps_take_bh l k hk] at b
  omega
theorem bh_lt (l : List Int) (k : Nat) (hk : k < seps l) : bh l k < bh l (k + 1) := by
  rcases Nat.lt_or_ge (bh l k) (bh l (k + 1)) with h | h
  · exact h
  · have a := seps_take_mono l h
    rw [seps_take_bh l k (by omega), seps_take_bh l (k + 1) (by omega)] at a
    omega
theorem bh_mono (l : List Int) (k : Nat) (hk : k ≤ seps l) : bh l k ≤ bh l (k + 1) := by
  rcases Nat.lt_or_ge k (seps l) with h | h
  · exact Nat.le_of_lt (bh_lt l k h)
  · rw [bh_end l (k + 1) (by omega)]; exact bh_le l k
/-- How many separators a paragraph has. -/
theorem seps_para (l : List Int) (k : Nat) (hk : k ≤ seps l) : seps ((l.drop (bh l k)).take (bh l (k + 1) - bh l k)) = if k < seps l then 1 else 0 := by
  have hm := bh_mono l k hk
  have e : l.take (bh l (k + 1)) = l.take (bh l k) ++ (l.drop (bh l k)).take (bh l (k + 1) - bh l k) := by
    conv => lhs; rw [show bh l (k + 1) = bh l k + (bh l (k + 1) - bh l k) from by omega]
    rw [List.take_add]
  have e2 := congrArg seps e
  rw [seps_append, seps_take_bh l k hk] at e2
  split
  · rename_i h
    rw [seps_take_bh l (k + 1) (by omega)] at e2; omega
  · rename_i h
    rw [bh_end l (k + 1) (by omega), List.take_length] at e2
    have : k = seps l := by omega
    rw [bh_end l (k + 1) (by omega)]
    omega
theorem meas_k (S k : Nat) (h : k ≤ S) : S + 2 - (intOf (.int .i64 ((k + 1 : Nat) : Int))).toNat < S + 2 - (intOf (.int .i64 (k : Int))).toNat := by simp [intOf]; omega
theorem meas_i (g i : Nat) (h : i < g) : g - (intOf (.int .i64 ((i + 1 : Nat) : Int))).toNat < g - (intOf (.int .i64 (i : Int))).toNat := by simp [intOf]; omega
theorem RopeParas_walk (w : World) (a0 : Option Addr) (n0 cap0 : Nat) (l : List Int) (h0 : Row .i32 w a0 n0 cap0 l) (hf0 : ∀ x ∈ l, (Lit.int .i32 x).wf = true) (hs0 : n0 * 4 ≤ 140737488351232) :
    Calls Try.prog 7 #[.slice a0 n0 cap0] w fun e w' => e = .returned (.bool true) ∧ Below w.heap.size w w' := by
  have HW := hide (works_any w)
  by_cases hbig : n0 ≤ 500
  · have e0 : ¬ ((500 : Int) < (n0 : Int)) := by omega
    have HNEW := hide (fun w' (hk : KO w w') => new_any a0 n0 cap0 l w' (h0.below hk) hf0 (by omega))
    have HL0 := hide h0.len
    have HB := hide hbig
    clear h0 hs0 hbig
    go_enter Try.func7, Try.ntmps7
    go_wp2_with (go_at_call 24; refine HW.out.mono ?_; rintro e w1 ⟨rfl, hb1⟩)
    have k1 : KO w w1 := hb1
    refine (HNEW.out w1 k1).mono ?_
    rintro e w2 ⟨b, t, rfl, hr, hl, hb2⟩
    have k2 : KO w w2 := KO.on k1 hb2
    have hsz : t.size = n0 := by unfold Tr.size; rw [hl]; exact HL0.out
    have hbk : t.brk = seps l := by unfold Tr.brk; rw [hl]
    obtain ⟨S, hS⟩ : ∃ S, seps l = S := ⟨_, rfl⟩
    have hS500 : S ≤ 500 := by rw [← hS]; have := seps_le l; have := HL0.out; have := HB.out; omega
    have HBK := hide (fun w' (hk : KO w2 w') => Breaks_rope b t w' (hr.below hk))
    rw [hbk, hS] at HBK
    have HPA := hide (fun w' (hk : KO w2 w') (i : Nat) (hi : i ≤ n0) => Para_ok b t i w' (hr.below hk) (by omega) (by have := HB.out; omega))
    rw [hl] at HPA
    have HSL := hide (fun w' (hk : KO w2 w') (i j : Nat) (hij : i ≤ j) (hj : j ≤ n0) => Slice_ok b t i j w' (hr.below hk) hij (by omega) (by have := HB.out; omega))
    rw [hl] at HSL
    have HS := hide hS
    have HS5 := hide hS500
    clear hr hl hb2 hb1 hsz hbk hS hS500 HNEW HW
    go_wp2_with fail
    go_loopw [4, 5] (fun v4 v5 wr => ∃ k : Nat, v4 = .int .i64 (bh l k : Int) ∧ v5 = .int .i64 (k : Int) ∧ k ≤ S + 1 ∧ KO w2 wr) (fun _ v5 _ => S + 2 - (intOf v5).toNat)
    case atStart => exact ⟨0, by simp, rfl, by omega, KO.refl _⟩
    case round =>
      obtain ⟨k, rfl, rfl, hk, hkr⟩ := hrel
      have hS := HS.out
      have hL := HL0.out
      obtain ⟨f, hf⟩ : ∃ f, bh l k = f := ⟨_, rfl⟩
      have hfn : f ≤ n0 := by rw [← hf, ← hL]; exact bh_le l k
      rw [hf]
      by_cases hkS : k ≤ S
      · have e1 : (k : Int) ≤ (S : Int) := by omega
        obtain ⟨g, hg⟩ : ∃ g, bh l (k + 1) = g := ⟨_, rfl⟩
        have hgn : g ≤ n0 := by rw [← hg, ← hL]; exact bh_le l _
        have hfg : f ≤ g := by rw [← hf, ← hg]; exact bh_mono l k (by omega)
        have hP := HPA.out wr hkr f hfn
        rw [show seps (l.take f) = k from by rw [← hf]; exact seps_take_bh l k (by omega), hf, hg] at hP
        have HP := hide hP
        have HB1 := hide (HBK.out wr hkr)
        have e2 : ¬ ((g : Int) < (f : Int)) := by omega
        have e2n : decide (g < f) = false := decide_eq_false (by omega)
        have HFG := hide hfg
        have HGN := hide hgn
        have HFN := hide hfn
        have HF := hide hf
        have HG := hide hg
        have HKS := hide hkS
        have HKK := hide hk
        have hlt2 : k < S → ¬ ((g : Int) = (f : Int)) := fun h => by have := bh_lt l k (by omega); omega
        obtain ⟨mm, hmm⟩ : ∃ mm : Nat, (if k < S then 1 else 0) = mm := ⟨_, rfl⟩
        obtain ⟨d, hd⟩ : ∃ d : Nat, S - k = d := ⟨_, rfl⟩
        have hS5 := HS5.out
        have hd2 : (S : Int) - (k : Int) = (d : Int) := by omega
        have HE6 := hide (show wrap64 ((S : Int) - (k : Int)) = (d : Int) from by rw [hd2]; exact w64_small (by omega) (by omega))
        have hrm : ∀ (w' : World) (ts : Array TypeId) (t : TypeId), (Builtin.min_ ts t #[.int .i64 1, .int .i64 (d : Int)]).run Try.prog w' = .ok (.int .i64 (mm : Int)) w' := by
          intro w' ts t
          rw [run_min_int2]
          congr 2
          rw [← hmm]
          split <;> split <;> omega
        have hrm2 : ∀ (w' : World) (ts : Array TypeId) (t : TypeId), (Builtin.min_ ts t #[.int .i64 1, .int .i64 ((S : Int) - (k : Int))]).run Try.prog w' = .ok (.int .i64 (mm : Int)) w' := by rw [hd2]; exact hrm
        have HSP := hide (show seps ((l.drop f).take (g - f)) = mm from by rw [← hf, ← hg, seps_para l k (by omega), hS]; exact hmm)
        have HMM := hide hmm
        have HE8 := hide (show wrap64 ((k : Int) + 1) = ((k + 1 : Nat) : Int) from w64_nat (by omega) (by omega))
        clear hP hfg hgn hfn hf hg hS hL hk hkS hmm hd hd2 hS5
        have hks : (k < S ∧ (k : Int) < (S : Int) ∧ ((g : Int) == (f : Int)) = false) ∨ ¬ ((k : Int) < (S : Int)) := by
          rcases Nat.lt_or_ge k S with h | h
          · exact .inl ⟨h, by omega, beq_false_of_ne (hlt2 h)⟩
          · exact .inr (by omega)
        clear hlt2
        rcases hks with ⟨_, e4, e5⟩ | e4
        all_goals (
          go_wp2_with (go_at_call 21; refine HB1.out.mono ?_; rintro e w' ⟨rfl, rfl⟩)
          refine HP.out.mono ?_
          rintro e w3 ⟨rfl, hb3⟩
          have k3 : KO w2 w3 := KO.on hkr hb3
          have HB2 := hide (HBK.out w3 k3)
          clear hb3
          go_wp2_with (go_at_call 21; refine HB2.out.mono ?_; rintro e w' ⟨rfl, rfl⟩)
          go_loopw [10] (fun v wi => ∃ i : Nat, v = .int .i64 (i : Int) ∧ Hid (f ≤ i ∧ i ≤ g) ∧ KO w2 wi) (fun v _ => g - (intOf v).toNat)
          case atStart => exact ⟨f, rfl, ⟨Nat.le_refl _, HFG.out⟩, k3⟩
          case round =>
            obtain ⟨i, rfl, hi, hki⟩ := hrel
            by_cases hig : i < g
            · have e7 : (i : Int) < (g : Int) := by omega
              have hPi := HPA.out wr hki i (by have := HGN.out; omega)
              rw [show seps (l.take i) = k from seps_within l i k (by rw [HS.out]; exact HKS.out) (by rw [HF.out]; exact hi.out.1) (by rw [HG.out]; exact hig), HF.out, HG.out] at hPi
              have HPI := hide hPi
              have HIG := hide hig
              have hi5 : i + 1 ≤ 500 := by have := HGN.out; have := HB.out; omega
              have e8 : wrap64 ((i : Int) + 1) = ((i + 1 : Nat) : Int) := w64_nat (by omega) (by omega)
              clear hPi hig hi5
              go_wp2_with (go_at_call 19; refine HPI.out.mono ?_; rintro e w4 ⟨rfl, hb4⟩; have k4 : KO w2 w4 := KO.on hki hb4; clear hb4)
              exact ⟨⟨i + 1, congrArg (Value.int .i64) e8, ⟨Nat.le_succ_of_le hi.out.1, HIG.out⟩, k4⟩, by rw [e8]; exact meas_i g i HIG.out⟩
            · have e7 : ¬ ((i : Int) < (g : Int)) := by omega
              have HSl := hide (HSL.out wr hki f g HFG.out HGN.out)
              clear hig
              go_wp2_with fail
              refine HSl.out.mono ?_
              rintro e w4 ⟨gr, rfl, hown, hb4⟩
              have k4 : KO w2 w4 := KO.on hki hb4
              obtain ⟨ao, cp, eq1, hrow⟩ := row_of_owns hown
              simp only [Value.slice.injEq] at eq1
              obtain ⟨rfl, _, rfl⟩ := eq1
              have HNW := hide (new_any _ _ _ _ w4 hrow (fun y hy => hf0 y (List.mem_of_mem_drop (List.mem_of_mem_take hy))) (by have := HGN.out; have := HB.out; omega))
              clear hown hrow hb4
              go_wp2_with fail
              refine HNW.out.mono ?_
              rintro e w5 ⟨b5, t5, rfl, hr5, hl5, hb5⟩
              have k5 : KO w2 w5 := KO.on k4 hb5
              have HB5 := hide (Breaks_rope b5 t5 w5 hr5)
              have HB6 := hide (HBK.out w5 k5)
              rw [show t5.brk = mm from by unfold Tr.brk; rw [hl5]; exact HSP.out] at HB5
              have e6 := HE6.out
              have e8 : wrap64 ((k : Int) + 1) = ((k + 1 : Nat) : Int) := HE8.out
              clear hr5 hl5 hb5
              go_wp2_with (first
                | (go_at_call_of 21 b5; refine HB5.out.mono ?_; rintro e w' ⟨rfl, rfl⟩)
                | (go_at_call_of 21 b; refine HB6.out.mono ?_; rintro e w' ⟨rfl, rfl⟩))
              exact ⟨⟨k + 1, by rw [HG.out], congrArg (Value.int .i64) e8, Nat.succ_le_succ HKS.out, k5⟩, by rw [e8]; exact meas_k S k HKS.out⟩)
      · have hks : k = S + 1 := by omega
        have e1 : ¬ ((k : Int) ≤ (S : Int)) := by omega
        have HB1 := hide (HBK.out wr hkr)
        have HE := hide (show f = n0 from by rw [← hf, bh_end l k (by omega)]; exact hL)
        clear hf hfn hS hL hk hks hkS
        go_wp2_with (go_at_call 21; refine HB1.out.mono ?_; rintro e w' ⟨rfl, rfl⟩)
        go_ret
        exact ⟨ret_bool (by rw [HE.out]; simp), KO.on k2 hkr⟩
  · have e0 : (500 : Int) < (n0 : Int) := by omega
    clear h0 hf0 hs0 hbig
    go_enter Try.func7, Try.ntmps7
    go_wp2_with (go_at_call 24; refine HW.out.mono ?_; rintro e w1 ⟨rfl, hb1⟩)
    go_ret
    exact ⟨rfl, hb1⟩
end Go.Proofs.Ytgfnbjgpiomcmaa
