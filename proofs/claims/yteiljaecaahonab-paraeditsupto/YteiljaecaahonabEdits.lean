/- ParaEdits: what an edit does not take away is found where Move says. -/
import Derived.Test.YteiljaecaahonabWorks
import Derived.Test.YteiljaecaahonabCopy
import Derived.Test.YteiljaecaahonabSlices
import Derived.Deep.RegionHeld3
import Derived.Deep.RegionHeldLaw
import Derived.Deep.QuietTactic
import Derived.BigQuiet
namespace Go.Proofs.Yteiljaecaahonab
open Go.RowKit
set_option linter.unusedVariables false
set_option maxHeartbeats 1000000
set_option maxRecDepth 100000
theorem info32 : (Try.prog.info? 21).map (fun i => (i.zero, i.size, i.bytes)) = some (some (.int .i32 0), 1, 4) := by kernel_rfl
theorem cells32 : Try.prog.cellsOf 21 = 1 := by kernel_rfl
theorem below_drewN (w : World) (k : Nat) : Below w.heap.size w (w.drewN k) := by have h := Below.refl w.heap.size w; exact ⟨h.os, h.tape, h.output, h.size, h.block⟩
theorem getL {a b : List Int} {k : Nat} (h : k < a.length) : (a ++ b).getD k 0 = a.getD k 0 := by simp [List.getD, List.getElem?_append_left h]
theorem getR {a b : List Int} {k : Nat} (h : a.length ≤ k) : (a ++ b).getD k 0 = b.getD (k - a.length) 0 := by simp [List.getD, List.getElem?_append_right h]
theorem getD_drop' (a : List Int) (j k : Nat) : (a.drop j).getD k 0 = a.getD (j + k) 0 := by simp [List.getD]
/-- What is found where Move says. -/
theorem edit_low (l m : List Int) (f g i : Nat) (hi : i < f) (hf : f ≤ l.length) : (l.take f ++ m ++ l.drop (f + g)).getD i 0 = l.getD i 0 := by
  rw [List.append_assoc, getL (by rw [List.length_take]; omega), getD_take (by omega)]
theorem edit_high (l m : List Int) (f g i : Nat) (hi : f + g ≤ i) (hf : f ≤ l.length) : (l.take f ++ m ++ l.drop (f + g)).getD (i - g + m.length) 0 = l.getD i 0 := by
  have hl : (l.take f ++ m).length = f + m.length := by rw [List.length_append, List.length_take]; omega
  rw [getR (by rw [hl]; omega), hl, getD_drop']
  congr 1; omega
theorem ParaEdits_walk (w : World) (a0 : Option Addr) (n0 cap0 : Nat) (l : List Int) (h0 : Row .i32 w a0 n0 cap0 l) (hf0 : ∀ x ∈ l, (Lit.int .i32 x).wf = true) (hs0 : n0 ≤ 1048576)
    (at0 : Int) (hat : (Lit.int .i64 at0).wf = true) (go0 : Int) (hgo : (Lit.int .i64 go0).wf = true) (a1 : Option Addr) (n1 cap1 : Nat) (m : List Int) (h1 : Row .i32 w a1 n1 cap1 m) (hf1 : ∀ x ∈ m, (Lit.int .i32 x).wf = true) (hs1 : n1 ≤ 1048576) :
    Calls Try.prog 7 #[.slice a0 n0 cap0, .int .i64 at0, .int .i64 go0, .slice a1 n1 cap1] w fun e w' => e = .returned (.bool true) ∧ Below w.heap.size w w' := by
  have HW := hide (pworks_any w)
  have H0 := hide h0
  have H1 := hide h1
  obtain ⟨f, hf, ef⟩ := place_at at0 (n0 + 1) (by omega) (by omega)
  obtain ⟨g, hg, eg⟩ := place_at go0 (n0 - f + 1) (by omega) (by omega)
  rw [show ((n0 + 1 : Nat) : Int) = (n0 : Int) + 1 from by omega] at ef
  rw [show ((n0 - f + 1 : Nat) : Int) = (n0 : Int) - (f : Int) + 1 from by omega] at eg
  clear h0 h1 hat hgo hf0 hf1
  go_enter Try.func7, Try.ntmps7
  go_wp2_with fail
  refine HW.out.mono ?_
  rintro e w1 ⟨rfl, hb1⟩
  have HB1 := hide hb1
  clear hb1
  go_wp2_with fail
  rw [ef, eg]
  clear ef eg
  obtain ⟨i32, hi32, hz0, hz1, hz2⟩ := info_parts info32
  have HI : Hid (Try.prog.info? 21 = some i32) := hi32
  have HZ0 := hide hz0
  have HZ1 := hide hz1
  have HZ2 := hide hz2
  have hfg : f + g ≤ n0 := by omega
  have hle := H0.out.le
  have hsl1 := fun w' => run_upto Try.underlying33 hi32 cells32 a0 n0 cap0 f (by omega) w'
  have hsl2 := fun w' => run_from Try.underlying33 hi32 cells32 a0 n0 cap0 (f + g) hfg w'
  rw [show ((f + g : Nat) : Int) = (f : Int) + (g : Int) from by omega] at hsl2
  have ew : IntKind.i64.wrap ((f : Int) + (g : Int)) = (f : Int) + (g : Int) := by rw [IntKind.wrap_i64]; omega
  have hR0 : ∀ w', KO w1 w' → Row .i32 w' a0 f cap0 (l.take f) := fun w' hk => (H0.out.below (KO.on HB1.out hk)).take (by omega)
  have hR1 : ∀ w', KO w1 w' → Row .i32 w' a1 n1 cap1 m := fun w' hk => H1.out.below (KO.on HB1.out hk)
  have hR2 : ∀ w', KO w1 w' → Row .i32 w' (tl a0 cap0 (f + g)) (n0 - (f + g)) (cap0 - (f + g)) (l.drop (f + g)) := fun w' hk => (H0.out.below (KO.on HB1.out hk)).drop hfg
  have HR0 := hide hR0
  have HR1 := hide hR1
  have HR2 := hide hR2
  have hK : KO w1 w1 := KO.refl _
  have hKd : KO w1 w1.drew := KO.drew hK
  have hKa : KO w1 (w1.drew.alloc (.cells #[] 21)) := KO.alloc hKd _
  clear hi32 hz0 hz1 hz2 hR0 hR1 hR2 hle
  refine wp_region_noPanic ?_
  go_region_held_law (fun w' => KO w1 w') (first | assumption)
    (first
      | (refine step_append_row _ rfl (.tmp 37) (.tmp 40) 33 rfl w1.heap.size 21 i32 (.int .i32 0) 4 Try.underlying33 HI.out HZ0.out HZ1.out HZ2.out rfl _ 0 [] rfl (owns_empty w1.drew 21 w1.heap.size rfl) .i32 a0 f cap0 (l.take f) rfl (HR0.out _ hKa) (by omega) (by omega) (by simp) ?_; intro v2 w2 ho2 hb2; have hk2 : KO w1 w2 := Below.trans hKa hb2)
      | (refine step_append_row _ rfl (.tmp 41) (.tmp 42) 33 rfl w1.heap.size 21 i32 (.int .i32 0) 4 Try.underlying33 HI.out HZ0.out HZ1.out HZ2.out rfl _ (0 + f) _ rfl ho2 .i32 a1 n1 cap1 m rfl (HR1.out _ hk2) (by omega) (by omega) (Below.size hk2) ?_; intro v3 w3 ho3 hb3; have hk3 : KO w1 w3 := Below.trans hk2 hb3)
      | (refine step_append_row _ rfl (.tmp 43) (.tmp 48) 33 rfl w1.heap.size 21 i32 (.int .i32 0) 4 Try.underlying33 HI.out HZ0.out HZ1.out HZ2.out rfl _ (0 + f + n1) _ rfl ho3 .i32 _ _ _ _ rfl (HR2.out _ hk3) (by omega) (by omega) (Below.size hk3) ?_; intro v4 w4 ho4 hb4; have hk4 : KO w1 w4 := Below.trans hk3 hb4))
  refine NoPanic.normal ?_
  have hmap : [] ++ (l.take f).map (Value.int .i32) ++ m.map (Value.int .i32) ++ (l.drop (f + g)).map (Value.int .i32) = (l.take f ++ m ++ l.drop (f + g)).map (Value.int .i32) := by simp
  rw [hmap, Nat.zero_add] at ho4
  obtain ⟨N, hN⟩ : ∃ N, f + n1 + (n0 - (f + g)) = N := ⟨_, rfl⟩
  rw [hN] at ho4
  obtain ⟨a4, c4, rfl, hr4⟩ := row_of_owns ho4
  have HN := hide hN
  have HNN := hide (show N + g = n0 + n1 from by omega)
  have HR4 := hide hr4
  have HK4 := hide hk4
  have HL0 := hide H0.out.len
  have HL1 := hide H1.out.len
  clear ho2 ho3 ho4 hb2 hb3 hb4 hk2 hk3 hk4 hK hKd hKa hr4 hmap hN hsl1 hsl2 ew HR0 HR1 HR2 HI HZ0 HZ1 HZ2
  go_wp2_with fail
  go_loopw [12] (fun v wr => ∃ i : Nat, v = .int .i64 (i : Int) ∧ i ≤ n0 ∧ KO w4 wr) (fun v _ => n0 - (intOf v).toNat)
  case atStart => exact ⟨0, rfl, Nat.zero_le _, KO.refl _⟩
  case round =>
    obtain ⟨i, rfl, hi, hk⟩ := hrel
    by_cases hlt : i < n0
    · have e1 : (i : Int) < (n0 : Int) := by omega
      have M := move_ok (i : Int) (f : Int) (g : Int) (n1 : Int) wr (by unfold Near; omega) (by unfold Near; omega) (by unfold Near; omega) (by unfold Near; omega)
      obtain ⟨b0, o0, rfl, hb0, hc0⟩ := H0.out.cells (by omega)
      have k0 : wr.cell? ⟨b0, o0 + i, none⟩ = some (.int .i32 (l.getD i 0)) := ((KO.on (KO.on HB1.out HK4.out) hk).cell (by exact hb0)).trans (hc0 i (by rw [HL0.out]; exact hlt))
      clear hc0
      have hnn := HNN.out
      by_cases h1 : i < f
      · obtain ⟨b4, o4, rfl, hb4, hc4⟩ := HR4.out.cells (by omega)
        have k4 : wr.cell? ⟨b4, o4 + i, none⟩ = some (.int .i32 (l.getD i 0)) := by
          have := hc4 i (by rw [HR4.out.len]; omega)
          rw [edit_low l m f g i h1 (by rw [HL0.out]; omega)] at this
          exact (Below.cell hk (by exact hb4)).trans this
        rw [show mvN (i : Int) (f : Int) (g : Int) (n1 : Int) = (i : Int) from by unfold mvN; rw [if_pos (by omega)]] at M
        have HM := hide M
        have e2 : (i : Int) < (f : Int) := by omega
        have e3 : ¬ ((N : Int) < (i : Int)) := by omega
        have e4 : ((i : Int) == (N : Int)) = false := beq_false_of_ne (by omega)
        have e5 : (i : Int) < (N : Int) := by omega
        generalize l.getD i 0 = x at *
        clear M hc4 hnn
        go_wp2_with (go_at_call 16; refine HM.out.mono ?_; rintro e w' ⟨rfl, rfl⟩)
        go_quiet (fail)
        go_wp2
        go_roundw
        case rel => exact ⟨i + 1, by go_num, by omega, KO.on hk (below_drewN _ _)⟩
        case measure => simp [intOf]; omega
      · by_cases h2 : i < f + g
        · rw [show mvN (i : Int) (f : Int) (g : Int) (n1 : Int) = (f : Int) from by unfold mvN; rw [if_neg (by omega), if_neg (by omega)]] at M
          have HM := hide M
          have e2 : ¬ ((i : Int) < (f : Int)) := by omega
          have e3 : ¬ ((N : Int) < (f : Int)) := by omega
          have e4 : (i : Int) < (f : Int) + (g : Int) := by omega
          clear M hnn k0
          go_wp2_with (go_at_call 16; refine HM.out.mono ?_; rintro e w' ⟨rfl, rfl⟩)
          go_roundw
          case rel => exact ⟨i + 1, by go_num, by omega, hk⟩
          case measure => simp [intOf]; omega
        · obtain ⟨b4, o4, rfl, hb4, hc4⟩ := HR4.out.cells (by omega)
          obtain ⟨k, hkk⟩ : ∃ k, i - g + n1 = k := ⟨_, rfl⟩
          have k4 : wr.cell? ⟨b4, o4 + k, none⟩ = some (.int .i32 (l.getD i 0)) := by
            have := hc4 (i - g + m.length) (by rw [HR4.out.len, HL1.out]; omega)
            rw [edit_high l m f g i (by omega) (by rw [HL0.out]; omega), HL1.out, hkk] at this
            exact (Below.cell hk (by exact hb4)).trans this
          rw [show mvN (i : Int) (f : Int) (g : Int) (n1 : Int) = (k : Int) from by unfold mvN; rw [if_neg (by omega), if_pos (by omega)]; omega] at M
          have HM := hide M
          have e2 : ¬ ((i : Int) < (f : Int)) := by omega
          have e3 : ¬ ((N : Int) < (k : Int)) := by omega
          have e4 : ((k : Int) == (N : Int)) = false := beq_false_of_ne (by omega)
          have e5 : (k : Int) < (N : Int) := by omega
          have e6 : ¬ ((i : Int) < (f : Int) + (g : Int)) := by omega
          generalize l.getD i 0 = x at *
          clear M hc4 hnn hkk
          go_wp2_with (go_at_call 16; refine HM.out.mono ?_; rintro e w' ⟨rfl, rfl⟩)
          go_quiet (fail)
          go_wp2
          go_roundw
          case rel => exact ⟨i + 1, by go_num, by omega, KO.on hk (below_drewN _ _)⟩
          case measure => simp [intOf]; omega
    · obtain rfl : i = n0 := by omega
      have M := move_ok (i : Int) (f : Int) (g : Int) (n1 : Int) wr (by unfold Near; omega) (by unfold Near; omega) (by unfold Near; omega) (by unfold Near; omega)
      have hnn := HNN.out
      rw [show mvN (i : Int) (f : Int) (g : Int) (n1 : Int) = (N : Int) from by unfold mvN; rw [if_neg (by omega), if_pos (by omega)]; omega] at M
      have HM := hide M
      clear M hnn
      go_wp2_with (go_at_call 16; refine HM.out.mono ?_; rintro e w' ⟨rfl, rfl⟩)
      go_ret
      exact ⟨rfl, KO.on (KO.on HB1.out HK4.out) hk⟩
end Go.Proofs.Yteiljaecaahonab
