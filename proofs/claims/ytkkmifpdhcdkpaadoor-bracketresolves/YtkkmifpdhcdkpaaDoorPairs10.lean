/- BracketPairs: its walk. -/
import Derived.Test.YtkkmifpdhcdkpaaDoorRp10
import Derived.Test.YtkkmifpdhcdkpaaDoorWorks10
import Derived.Test.YtkkmifpdhcdkpaaDoorSame2
namespace Go.Proofs.YtkkmifpdhcdkpaaDoor
open Go.RowKit
set_option linter.unusedVariables false
set_option maxHeartbeats 2000000
set_option maxRecDepth 100000
theorem runes_yes (a0 a1 : Option Addr) (n c0 c1 : Nat) (l : List Int) (w : World) (h0 : Row .i32 w a0 n c0 l) (h1 : Row .i32 w a1 n c1 l) :
    Calls Tryd.prog 13 #[.slice a0 n c0, .slice a1 n c1] w fun e w' => e = .returned (.bool true) ∧ ∃ k, w' = w.drewN k := by
  have hx := h0.le
  have hm := h0.max
  unfold maxLen at hm
  have hl := h0.len
  have H0 := hide h0
  have H1 := hide h1
  have HL := hide hl
  clear h0 h1 hl
  go_enter Tryd.func13, Tryd.ntmps13
  go_wp2
  go_loopw [5] (fun i wr => ∃ k nq : Nat, k ≤ n ∧ i = .int .i64 k ∧ wr = w.drewN nq) (fun i _ => n - (intOf i).toNat)
  case atStart => exact ⟨0, 0, Nat.zero_le _, rfl, rfl⟩
  case round =>
    obtain ⟨k, nq, hk, rfl, rfl⟩ := hrel
    by_cases hlt : k < n
    · obtain ⟨b0, o0, rfl, _, hc0⟩ := H0.out.cells (by omega)
      obtain ⟨b1, o1, rfl, _, hc1⟩ := H1.out.cells (by omega)
      have g0 := hc0 k (by have := HL.out; omega)
      have g1 := hc1 k (by have := HL.out; omega)
      clear hc0 hc1
      generalize l.getD k 0 = x at *
      have hlt' : (k : Int) < (n : Int) := by omega
      go_wp2
      go_quiet (fail)
      go_wp2
      go_roundw
      case rel => exact ⟨k + 1, _, by omega, by go_num, by first | rfl | exact World.drewN_drewN _ _ _⟩
      case measure => simp [intOf]; omega
    · go_wp2
      go_ret
      exact ⟨rfl, _, rfl⟩
namespace Br
/-- What Pairs answers. -/
def PA (l t : List Int) : Int × List (Nat × Nat) := if l.length = t.length then (0, PP l t) else (2, [])
end Br
/-- What is said of an answer. -/
def P10 (w : World) (A : Int × List (Nat × Nat)) (e : Ending) (w' : World) : Prop := ∃ ao cap, e = .returned (.tuple #[.slice ao A.2.length cap, .int .i64 A.1]) ∧ Pairs w' ao A.2.length cap A.2 ∧ KO w w'
theorem pairs_all (a0 a1 : Option Addr) (n0 n1 c0 c1 : Nat) (l t : List Int) (w : World) (h0 : Row .i32 w a0 n0 c0 l) (h1 : Row .i64 w a1 n1 c1 t) (hf : ∀ x ∈ l, (Lit.int .i32 x).wf = true) (hm : Marks w) (hn : n1 * 8 ≤ 140737488351232) :
    Calls Tryd.prog 10 #[.slice a0 n0 c0, .slice a1 n1 c1] w (P10 w (Br.PA l t)) := by
  have e0 := h0.len
  have e1 := h1.len
  by_cases hN : n0 = n1
  · subst hN
    have e : Br.PA l t = (0, Br.PP l t) := by unfold Br.PA; rw [if_pos (by omega)]
    rw [e]
    refine (pairs_ok a0 a1 n0 c0 c1 l t w h0 h1 hf hm hn).mono ?_
    rintro r w' ⟨ao, cap, rfl, hp, hk⟩
    exact ⟨ao, cap, rfl, hp, hk⟩
  · have e : Br.PA l t = (2, []) := by unfold Br.PA; rw [if_neg (by omega)]
    rw [e]
    have q0 : n0 ≤ 9223372036854775807 := by have h3 := h0.le; have h4 := h0.max; unfold maxLen at h4; omega
    refine (pairs_bad a0 a1 n0 n1 c0 c1 w hN q0 (by omega)).mono ?_
    rintro r w' ⟨rfl, rfl⟩
    exact ⟨none, 0, rfl, pairs_nil _, KO.refl _⟩
theorem rpairs_all (a0 a1 : Option Addr) (n0 n1 c0 c1 : Nat) (l t : List Int) (w : World) (h0 : Row .i32 w a0 n0 c0 l) (h1 : Row .i64 w a1 n1 c1 t) (hf : ∀ x ∈ l, (Lit.int .i32 x).wf = true) (hn : n0 ≤ 80000) (hn1 : n1 * 8 ≤ 140737488351232) :
    Calls Tryd.prog 11 #[.slice a0 n0 c0, .slice a1 n1 c1] w (P10 w (Br.PA l t)) := by
  have e0 := h0.len
  have e1 := h1.len
  by_cases hN : n0 = n1
  · subst hN
    have e : Br.PA l t = (0, Br.PP l t) := by unfold Br.PA; rw [if_pos (by omega)]
    rw [e]
    refine (rpairs_ok a0 a1 n0 c0 c1 l t w h0 h1 hf hn).mono ?_
    rintro r w' ⟨ao, cap, rfl, hp, hk, _⟩
    exact ⟨ao, cap, rfl, hp, hk⟩
  · have e : Br.PA l t = (2, []) := by unfold Br.PA; rw [if_neg (by omega)]
    rw [e]
    refine (rpairs_bad a0 a1 n0 n1 c0 c1 w hN (by omega) (by omega)).mono ?_
    rintro r w' ⟨rfl, rfl⟩
    exact ⟨none, 0, rfl, pairs_nil _, KO.refl _⟩
theorem infoRune' : (Tryd.prog.info? 21).map (fun i => (i.zero, i.size, i.bytes)) = some (some (.int .i32 0), 1, 4) := by kernel_rfl
theorem BracketPairs_walk (w : World) (hm : Marks w) (a0 : Option Addr) (n0 c0 : Nat) (l : List Int) (h0 : Row .i32 w a0 n0 c0 l) (f0 : ∀ x ∈ l, (Lit.int .i32 x).wf = true) (b0 : n0 * 4 ≤ 140737488351232)
    (a1 : Option Addr) (n1 c1 : Nat) (t : List Int) (h1 : Row .i64 w a1 n1 c1 t) (f1 : ∀ x ∈ t, (Lit.int .i64 x).wf = true) (b1 : n1 * 8 ≤ 140737488351232) :
    Calls Tryd.prog 3 #[.slice a0 n0 c0, .slice a1 n1 c1] w fun e w' => e = .returned (.bool true) ∧ Below w.heap.size w w' := by
  have HM := hide hm
  by_cases hbig : 1000 < n0
  · have hbig' : (1000 : Int) < (n0 : Int) := by omega
    have HW := hide (works10_any w hm)
    clear hm h0 f0 h1 f1
    go_enter Tryd.func3, Tryd.ntmps3
    go_wp2_with fail
    refine HW.out.mono ?_
    rintro e w1 ⟨rfl, hk⟩
    go_wp2
    go_ret
    exact ⟨rfl, hk⟩
  · have hbig' : ¬ (1000 : Int) < (n0 : Int) := by omega
    obtain ⟨ir, hir, hz0, hz1, hz2⟩ := info_parts infoRune'
    obtain ⟨ii, hii, hy0, hy1, hy2⟩ := info_parts infoInt
    have HIR := hide hir
    have HZ0 := hide hz0
    have HZ1 := hide hz1
    have HZ2 := hide hz2
    have HII := hide hii
    have HY0 := hide hy0
    have HY1 := hide hy1
    have HY2 := hide hy2
    have H0 := hide h0
    have H1 := hide h1
    have HF := hide f0
    obtain ⟨W1, hW1⟩ : ∃ W1, w.alloc (.cells #[] 21) = W1 := ⟨_, rfl⟩
    have hk1 : KO w W1 := by rw [← hW1]; exact KO.alloc (KO.refl _) _
    have HO1 := hide (show W1.ownsRow w.heap.size 21 1 (.slice (some ⟨w.heap.size, 0, none⟩) 0 0) 0 [] from by rw [← hW1]; exact owns_empty w 21 w.heap.size rfl)
    have HR1 := hide (h0.below hk1)
    have HK1 := hide hk1
    clear hm h0 f0 h1 f1 hir hz0 hz1 hz2 hii hy0 hy1 hy2 hk1
    go_enter Tryd.func3, Tryd.ntmps3
    have HPREP := hide (fun (v2 : Value) (W2 : World) (ho2 : W2.ownsRow w.heap.size 21 1 v2 (0 + n0) ([] ++ l.map (Value.int .i32))) (hb2 : Below w.heap.size W1 W2) => show ∃ W3 ao cap, W2.alloc (.cells #[] 3) = W3 ∧ v2 = .slice ao n0 cap ∧ Hid (Row .i32 W2 ao n0 cap l) ∧ Hid (KO W2 W3) ∧ Hid (KO w W3) ∧ Hid (Row .i64 W3 a1 n1 c1 t) ∧ Hid (W3.ownsRow W2.heap.size 3 1 (.slice (some ⟨W2.heap.size, 0, none⟩) 0 0) 0 []) ∧ Hid (W2.heap.size ≤ W3.heap.size) ∧ Hid (w.heap.size ≤ W2.heap.size) from by
      rw [Nat.zero_add, List.nil_append] at ho2
      obtain ⟨ao, cap, e2, hr2⟩ := row_of_owns ho2
      have hk2 : KO w W2 := HK1.out.trans hb2
      have hk3 : KO W2 (W2.alloc (.cells #[] 3)) := KO.alloc (KO.refl _) _
      exact ⟨_, ao, cap, rfl, e2, hide hr2, hide hk3, hide (KO.on hk2 hk3), hide (H1.out.below (KO.on hk2 hk3)), hide (owns_empty W2 3 W2.heap.size rfl), hide hk3.size, hide hk2.size⟩)
    go_wp2_with (first
      | (at_builtin; refine wpList_append_row W1 (by rfl) (.tmp 15) (.tmp 16) 22 rfl w.heap.size 21 ir (.int .i32 0) 4 Tryd.underlying22 HIR.out HZ0.out HZ1.out HZ2.out rfl _ 0 _ rfl HO1.out .i32 a0 n0 c0 l rfl HR1.out (by omega) (by omega) HK1.out.size ?_; intro v2 W2 ho2 hb2; obtain ⟨W3, ao2, cap2, hW3, rfl, HRL, HK23, HKL, HRT, HO3, HS3, HS2⟩ := HPREP.out v2 W2 ho2 hb2; clear ho2 hb2 hW1)
      | (at_builtin; refine wpList_append_row W3 (by rfl) (.tmp 18) (.tmp 19) 23 rfl W2.heap.size 3 ii (.int .i64 0) 8 Tryd.underlying23 HII.out HY0.out HY1.out HY2.out rfl _ 0 _ rfl HO3.out .i64 a1 n1 c1 t rfl HRT.out (by omega) (by omega) HS3.out ?_; intro v4 W4 ho4 hb4; rw [Nat.zero_add, List.nil_append] at ho4; obtain ⟨ao4, cap4, hv4, hr4⟩ := row_of_owns ho4; subst hv4; clear hW3))
    have HK4 := hide (show KO w W4 from HKL.out.trans (hb4.mono HS2.out))
    have HRM := hide hr4
    have HRO := hide (HRL.out.below (HK23.out.trans hb4))
    clear hr4 hb4 ho4 HRL HK23 HKL HRT HO3 HS3 HS2 HPREP HO1 HR1 HK1
    have HPA := hide (pairs_all ao2 ao4 n0 n1 cap2 cap4 l t W4 HRO.out HRM.out HF.out (HM.out.below HK4.out) b1)
    have HPB := hide (fun W (hk : KO w W) => rpairs_all a0 a1 n0 n1 c0 c1 l t W (H0.out.below hk) (H1.out.below hk) HF.out (by omega) b1)
    generalize Br.PA l t = AA at *
    obtain ⟨ax, al⟩ := AA
    refine HPA.out.mono ?_
    rintro e w5 ⟨ap, cp, rfl, hp5, hk5⟩
    have HP5 := hide hp5
    have HK5 := hide (KO.on HK4.out hk5)
    have HK45 := hide hk5
    simp only at hp5 ⊢
    clear hp5 hk5 HPA
    go_wp2_with fail
    refine (HPB.out w5 HK5.out).mono ?_
    rintro e w6 ⟨aq, cq, rfl, hp6, hk6⟩
    simp only at hp6 ⊢
    have HSA := hide (same2_yes ap aq al.length cp cq al w6 (HP5.out.below hk6) hp6)
    have HK6 := hide (KO.on HK5.out hk6)
    have HK46 := hide (KO.on HK45.out hk6)
    have HSB := hide (fun W (hk : KO w6 W) => runes_yes ao2 a0 n0 cap2 c0 l W (HRO.out.below (KO.on HK46.out hk)) (H0.out.below (KO.on HK6.out hk)))
    have HSC := hide (fun W (hk : KO w6 W) => ints_yes ao4 a1 n1 cap4 c1 t W (HRM.out.below (KO.on HK46.out hk)) (H1.out.below (KO.on HK6.out hk)))
    have HWK := hide (fun W (hk : KO w6 W) => works10_any W (HM.out.below (KO.on HK6.out hk)))
    generalize al.length = an at *
    clear hp6 hk6 HPB HP5 HK45 HK46 HK5
    go_wp2_with fail
    refine HSA.out.mono ?_
    rintro e w7 ⟨rfl, hd7⟩
    have HK7 := hide (show KO w6 w7 from below_of_drewN hd7)
    clear hd7 HSA
    go_wp2_with fail
    refine (HSB.out w7 HK7.out).mono ?_
    rintro e w8 ⟨rfl, hd8⟩
    have HK8 := hide (show KO w6 w8 from KO.on HK7.out (below_of_drewN hd8))
    clear hd8 HSB
    go_wp2_with fail
    refine (HSC.out w8 HK8.out).mono ?_
    rintro e w9 ⟨rfl, hd9⟩
    have HK9 := hide (show KO w6 w9 from KO.on HK8.out (below_of_drewN hd9))
    clear hd9 HSC
    go_wp2_with fail
    refine (HWK.out w9 HK9.out).mono ?_
    rintro e w10 ⟨rfl, hk10⟩
    have HE := hide (KO.on HK6.out (KO.on HK9.out hk10))
    clear hk10
    go_wp2
    go_ret
    exact ⟨rfl, HE.out⟩
end Go.Proofs.YtkkmifpdhcdkpaaDoor
