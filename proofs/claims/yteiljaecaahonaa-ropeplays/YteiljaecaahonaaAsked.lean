/- asked: what is told of places, any ones. -/
import Derived.Test.YteiljaecaahonaaWk
import Derived.Test.YteiljaecaahonaaRefp
import Derived.Test.YteiljaecaahonaaCopy
namespace Go.Proofs.Yteiljaecaahonaa
open Go.RowKit
set_option linter.unusedVariables false
set_option maxHeartbeats 2000000
set_option maxRecDepth 100000
theorem run_between (ao : Option Addr) (n cap i j : Nat) (hij : i ≤ j) (hj : j ≤ cap) (w : World) :
    (Instr.slice 22 (.slice ao n cap) (some (.int .i64 (i : Int))) (some (.int .i64 (j : Int))) none).run Try.prog w = .ok (.slice (tl ao cap i) (j - i) (cap - i)) w := by
  obtain ⟨i32, hi32, _⟩ := info_parts infoR
  have e1 : (0 : Int) ≤ (i : Int) ∧ (i : Int) ≤ (j : Int) := by omega
  have e2 : (0 : Int) ≤ (j : Int) ∧ (j : Int) ≤ (cap : Int) := by omega
  simp [Instr.slice, run_underlying Try.underlying22, Instr.sliceBounds, go_sem, e1, e2, tl]
  intro h; omega
theorem Row.between {k : IntKind} {w : World} {ao : Option Addr} {n cap : Nat} {xs : List Int} (h : Row k w ao n cap xs) {i j : Nat} (hij : i ≤ j) (hj : j ≤ n) : Row k w (tl ao cap i) (j - i) (cap - i) ((xs.drop i).take (j - i)) :=
  (h.drop (j := i) (by omega)).take (by omega)
theorem wrong_no (ao : Option Addr) (n cap : Nat) (fr tu : Int) (w : World) (h : ¬ (0 ≤ fr ∧ fr ≤ tu ∧ tu ≤ (n : Int))) :
    Calls Try.prog 37 #[.slice ao n cap, .int .i64 fr, .int .i64 tu] w fun e w' => e = .returned (.int .i64 4) ∧ w = w' := by
  have h2 : fr < 0 ∨ (¬ fr < 0 ∧ (n : Int) < tu) ∨ (¬ fr < 0 ∧ ¬ (n : Int) < tu ∧ tu < fr) := by omega
  clear h
  rcases h2 with h1 | ⟨h1, h2⟩ | ⟨h1, h2, h3⟩
  all_goals
    go_enter Try.func37, Try.ntmps37
    go_wp2
    go_ret
    exact ⟨rfl, rfl⟩
theorem wrong_ok (ao : Option Addr) (n cap : Nat) (fr tu : Int) (w : World) (h1 : 0 ≤ fr) (h2 : fr ≤ tu) (h3 : tu ≤ (n : Int)) :
    Calls Try.prog 37 #[.slice ao n cap, .int .i64 fr, .int .i64 tu] w fun e w' => e = .returned (.int .i64 0) ∧ w = w' := by
  go_enter Try.func37, Try.ntmps37
  go_wp2
  go_ret
  exact ⟨rfl, rfl⟩
theorem own32 (w : World) : ∃ i32, Try.prog.info? 21 = some i32 ∧ i32.zero = some (.int .i32 0) ∧ i32.size = 1 ∧ i32.bytes = 4 := info_parts infoR
theorem asked_v1 (b : Nat) (t : Tr) (ao : Option Addr) (n cap : Nat) (l : List Int) (w : World) (hr : IsRope w b t) (hrow : Row .i32 w ao n cap l) (hf : ∀ x ∈ l, (Lit.int .i32 x).wf = true) (hl : t.list = l) (hn : n ≤ 1000000) (i j : Nat) (hij : i ≤ j) (hjn : j ≤ n) (hin : i < n) :
    Calls Try.prog 11 #[.pointer (some ⟨b, 0, none⟩), .slice ao n cap, .int .i64 (i : Int), .int .i64 (j : Int)] w fun e w' => e = .returned (.bool true) ∧ Below w.heap.size w w' := by
  have hsz : t.size = n := by unfold Tr.size; rw [hl]; exact hrow.len
  have HLEN := hide hrow.len
  obtain ⟨i32, hi32, hz0, hz1, hz2⟩ := own32 w
  have HI : Hid (Try.prog.info? 21 = some i32) := hi32
  have HZ0 := hide hz0
  have HZ1 := hide hz1
  have HZ2 := hide hz2
  have HROW := hide hrow
  have HF := hide hf
  have HKA := hide (show KO w (w.alloc (.cells #[] 21)) from KO.alloc (KO.refl _) _)
  have HSL := hide (fun w' (hk : KO w w') => Slice_ok b t i j w' (hr.below hk) hij (by omega) (by omega))
  rw [hl] at HSL
  have HWR := hide (fun ao cap w' => wrong_ok ao n cap (i : Int) (j : Int) w' (by omega) (by omega) (by omega))
  have HAT := hide (fun w' (hk : KO w w') => At_pos b t i w' (hr.below hk) (by omega))
  rw [hl, if_pos (show i < t.size from by omega)] at HAT
  have HPA := hide (fun w' (hk : KO w w') => Para_ok b t i w' (hr.below hk) (by omega) (by omega))
  rw [hl] at HPA
  have HW2 := hide (fun ao cap w' => wrong_ok ao n cap (i : Int) (i : Int) w' (by omega) (by omega) (by omega))
  have e1 : ¬ ((i : Int) < 0) := by omega
  have e2 : (i : Int) < (n : Int) := by omega
  clear hr hrow hf hl hsz hi32 hz0 hz1 hz2
  go_enter Try.func11, Try.ntmps11
  go_wp2_with (at_builtin; refine wpList_append_row _ rfl (.tmp 20) (.tmp 21) 22 rfl w.heap.size 21 i32 (.int .i32 0) 4 Try.underlying22 HI.out HZ0.out HZ1.out HZ2.out rfl _ 0 [] rfl (owns_empty w 21 w.heap.size rfl) .i32 ao n cap l rfl (HROW.out.below HKA.out) (by omega) (by omega) (by simp) ?_; intro v2 w1 hown2 hb1)
  rw [List.nil_append, Nat.zero_add] at hown2
  obtain ⟨a1, c1, rfl, hr1⟩ := row_of_owns hown2
  have k1 : KO w w1 := Below.trans HKA.out hb1
  have HR1 := hide hr1
  have hc1 := hr1.le
  clear hown2 hb1 hr1
  refine (HSL.out w1 k1).mono ?_
  rintro e w2 ⟨g, rfl, hown, hb2⟩
  obtain ⟨a2, c2, eq2, hr2⟩ := row_of_owns hown
  simp only [Value.slice.injEq] at eq2
  obtain ⟨rfl, _, rfl⟩ := eq2
  have k2 : KO w w2 := KO.on k1 hb2
  have HR2 := hide (HR1.out.below hb2)
  have HSM := hide (same_yes (some ⟨g, 0, none⟩) (tl a1 c1 i) (j - i) (j - i) (c1 - i) ((l.drop i).take (j - i)) w2 hr2 (HR2.out.between hij hjn))
  have hbt := run_between a1 n c1 i j hij (by omega)
  clear hown hb2 hr2
  go_wp2_with fail
  refine (HWR.out _ _ _).mono ?_
  rintro e w' ⟨rfl, rfl⟩
  go_wp2_with fail
  refine HSM.out.mono ?_
  rintro e w3 ⟨rfl, nq, rfl⟩
  have k3 : KO w (w2.drewN nq) := KO.on k2 (by have h := Below.refl w2.heap.size w2; exact ⟨h.os, h.tape, h.output, h.size, h.block⟩)
  have HR3 := hide (HR2.out.below (w' := w2.drewN nq) (by have h := Below.refl w2.heap.size w2; exact ⟨h.os, h.tape, h.output, h.size, h.block⟩))
  generalize w2.drewN nq = w3 at *
  go_wp2_with fail
  refine (HAT.out w3 k3).mono ?_
  rintro e w4 ⟨rfl, hb4⟩
  have k4 : KO w w4 := KO.on k3 hb4
  have HR4 := hide (HR3.out.below hb4)
  obtain ⟨bq, oq, rfl, _, hcq⟩ := HR4.out.cells (by omega)
  have cq := hcq i (by have := HLEN.out; omega)
  generalize l.getD i 0 = xx at *
  clear hcq
  clear hb4
  go_wp2_with fail
  refine (HPA.out w4 k4).mono ?_
  rintro e w5 ⟨rfl, hb5⟩
  have k5 : KO w w5 := KO.on k4 hb5
  have HRP := hide (rpara_any _ n c1 l i w5 (HR4.out.below hb5) HF.out (by omega) (by omega))
  clear hb5
  go_wp2_with fail
  refine (HW2.out _ _ _).mono ?_
  rintro e w' ⟨rfl, rfl⟩
  go_wp2_with fail
  refine HRP.out.mono ?_
  rintro e w6 ⟨rfl, hb6⟩
  have k6 : KO w w6 := KO.on k5 hb6
  clear hb6
  go_wp2_with fail
  go_ret
  exact ⟨ret_bool (by simp), k6⟩
theorem asked_v2 (b : Nat) (t : Tr) (ao : Option Addr) (n cap : Nat) (l : List Int) (w : World) (hr : IsRope w b t) (hrow : Row .i32 w ao n cap l) (hf : ∀ x ∈ l, (Lit.int .i32 x).wf = true) (hl : t.list = l) (hn : n ≤ 1000000) (i j : Nat) (hij : i ≤ j) (hjn : j ≤ n) (hin : ¬ i < n) :
    Calls Try.prog 11 #[.pointer (some ⟨b, 0, none⟩), .slice ao n cap, .int .i64 (i : Int), .int .i64 (j : Int)] w fun e w' => e = .returned (.bool true) ∧ Below w.heap.size w w' := by
  have hsz : t.size = n := by unfold Tr.size; rw [hl]; exact hrow.len
  have HLEN := hide hrow.len
  obtain ⟨i32, hi32, hz0, hz1, hz2⟩ := own32 w
  have HI : Hid (Try.prog.info? 21 = some i32) := hi32
  have HZ0 := hide hz0
  have HZ1 := hide hz1
  have HZ2 := hide hz2
  have HROW := hide hrow
  have HF := hide hf
  have HKA := hide (show KO w (w.alloc (.cells #[] 21)) from KO.alloc (KO.refl _) _)
  have HSL := hide (fun w' (hk : KO w w') => Slice_ok b t i j w' (hr.below hk) hij (by omega) (by omega))
  rw [hl] at HSL
  have HWR := hide (fun ao cap w' => wrong_ok ao n cap (i : Int) (j : Int) w' (by omega) (by omega) (by omega))
  have HAT := hide (fun w' (hk : KO w w') => At_pos b t i w' (hr.below hk) (by omega))
  rw [hl, if_neg (show ¬ i < t.size from by omega), show l.getD i 0 = 0 from by simp [List.getD, List.getElem?_eq_none (show l.length ≤ i by have := hrow.len; omega)]] at HAT
  have HPA := hide (fun w' (hk : KO w w') => Para_ok b t i w' (hr.below hk) (by omega) (by omega))
  rw [hl] at HPA
  have HW2 := hide (fun ao cap w' => wrong_ok ao n cap (i : Int) (i : Int) w' (by omega) (by omega) (by omega))
  have e1 : ¬ ((i : Int) < 0) := by omega
  have e2 : ¬ ((i : Int) < (n : Int)) := by omega
  clear hr hrow hf hl hsz hi32 hz0 hz1 hz2
  go_enter Try.func11, Try.ntmps11
  go_wp2_with (at_builtin; refine wpList_append_row _ rfl (.tmp 20) (.tmp 21) 22 rfl w.heap.size 21 i32 (.int .i32 0) 4 Try.underlying22 HI.out HZ0.out HZ1.out HZ2.out rfl _ 0 [] rfl (owns_empty w 21 w.heap.size rfl) .i32 ao n cap l rfl (HROW.out.below HKA.out) (by omega) (by omega) (by simp) ?_; intro v2 w1 hown2 hb1)
  rw [List.nil_append, Nat.zero_add] at hown2
  obtain ⟨a1, c1, rfl, hr1⟩ := row_of_owns hown2
  have k1 : KO w w1 := Below.trans HKA.out hb1
  have HR1 := hide hr1
  have hc1 := hr1.le
  clear hown2 hb1 hr1
  refine (HSL.out w1 k1).mono ?_
  rintro e w2 ⟨g, rfl, hown, hb2⟩
  obtain ⟨a2, c2, eq2, hr2⟩ := row_of_owns hown
  simp only [Value.slice.injEq] at eq2
  obtain ⟨rfl, _, rfl⟩ := eq2
  have k2 : KO w w2 := KO.on k1 hb2
  have HR2 := hide (HR1.out.below hb2)
  have HSM := hide (same_yes (some ⟨g, 0, none⟩) (tl a1 c1 i) (j - i) (j - i) (c1 - i) ((l.drop i).take (j - i)) w2 hr2 (HR2.out.between hij hjn))
  have hbt := run_between a1 n c1 i j hij (by omega)
  clear hown hb2 hr2
  go_wp2_with fail
  refine (HWR.out _ _ _).mono ?_
  rintro e w' ⟨rfl, rfl⟩
  go_wp2_with fail
  refine HSM.out.mono ?_
  rintro e w3 ⟨rfl, nq, rfl⟩
  have k3 : KO w (w2.drewN nq) := KO.on k2 (by have h := Below.refl w2.heap.size w2; exact ⟨h.os, h.tape, h.output, h.size, h.block⟩)
  have HR3 := hide (HR2.out.below (w' := w2.drewN nq) (by have h := Below.refl w2.heap.size w2; exact ⟨h.os, h.tape, h.output, h.size, h.block⟩))
  generalize w2.drewN nq = w3 at *
  go_wp2_with fail
  refine (HAT.out w3 k3).mono ?_
  rintro e w4 ⟨rfl, hb4⟩
  have k4 : KO w w4 := KO.on k3 hb4
  have HR4 := hide (HR3.out.below hb4)
  clear hb4
  go_wp2_with fail
  refine (HPA.out w4 k4).mono ?_
  rintro e w5 ⟨rfl, hb5⟩
  have k5 : KO w w5 := KO.on k4 hb5
  have HRP := hide (rpara_any _ n c1 l i w5 (HR4.out.below hb5) HF.out (by omega) (by omega))
  clear hb5
  go_wp2_with fail
  refine (HW2.out _ _ _).mono ?_
  rintro e w' ⟨rfl, rfl⟩
  go_wp2_with fail
  refine HRP.out.mono ?_
  rintro e w6 ⟨rfl, hb6⟩
  have k6 : KO w w6 := KO.on k5 hb6
  clear hb6
  go_wp2_with fail
  go_ret
  exact ⟨ret_bool (by simp), k6⟩
theorem asked_i1 (b : Nat) (t : Tr) (ao : Option Addr) (n cap : Nat) (l : List Int) (w : World) (hr : IsRope w b t) (hrow : Row .i32 w ao n cap l) (hf : ∀ x ∈ l, (Lit.int .i32 x).wf = true) (hl : t.list = l) (hn : n ≤ 1000000) (fr tu : Int) (hfr : fr < 0) :
    Calls Try.prog 11 #[.pointer (some ⟨b, 0, none⟩), .slice ao n cap, .int .i64 fr, .int .i64 tu] w fun e w' => e = .returned (.bool true) ∧ Below w.heap.size w w' := by
  have hsz : t.size = n := by unfold Tr.size; rw [hl]; exact hrow.len
  have HLEN := hide hrow.len
  obtain ⟨i32, hi32, hz0, hz1, hz2⟩ := own32 w
  have HI : Hid (Try.prog.info? 21 = some i32) := hi32
  have HZ0 := hide hz0
  have HZ1 := hide hz1
  have HZ2 := hide hz2
  have HROW := hide hrow
  have HF := hide hf
  have HKA := hide (show KO w (w.alloc (.cells #[] 21)) from KO.alloc (KO.refl _) _)
  have HSL := hide (fun w' (hk : KO w w') => Slice_bad b t fr tu w' (hr.below hk) (by omega))
  have HWR := hide (fun ao cap w' => wrong_no ao n cap fr tu w' (by omega))
  have HAT := hide (fun w' (hk : KO w w') => At_neg b t fr w' (hr.below hk) (by omega))
  have HPA := hide (fun w' (hk : KO w w') => Para_bad b t fr w' (hr.below hk) (by omega))
  have HW2 := hide (fun ao cap w' => wrong_no ao n cap fr fr w' (by omega))
  clear hr hrow hf hl hsz hi32 hz0 hz1 hz2
  go_enter Try.func11, Try.ntmps11
  go_wp2_with (at_builtin; refine wpList_append_row _ rfl (.tmp 20) (.tmp 21) 22 rfl w.heap.size 21 i32 (.int .i32 0) 4 Try.underlying22 HI.out HZ0.out HZ1.out HZ2.out rfl _ 0 [] rfl (owns_empty w 21 w.heap.size rfl) .i32 ao n cap l rfl (HROW.out.below HKA.out) (by omega) (by omega) (by simp) ?_; intro v2 w1 hown2 hb1)
  rw [List.nil_append, Nat.zero_add] at hown2
  obtain ⟨a1, c1, rfl, hr1⟩ := row_of_owns hown2
  have k1 : KO w w1 := Below.trans HKA.out hb1
  have HR1 := hide hr1
  have hc1 := hr1.le
  clear hown2 hb1 hr1
  refine (HSL.out w1 k1).mono ?_
  rintro e w3 ⟨rfl, hb2⟩
  have k3 : KO w w3 := KO.on k1 hb2
  have HR3 := hide (HR1.out.below hb2)
  clear hb2
  go_wp2_with fail
  refine (HWR.out _ _ _).mono ?_
  rintro e w' ⟨rfl, rfl⟩
  go_wp2_with fail
  refine (HAT.out w3 k3).mono ?_
  rintro e w4 ⟨rfl, hb4⟩
  have k4 : KO w w4 := KO.on k3 hb4
  have HR4 := hide (HR3.out.below hb4)
  clear hb4
  go_wp2_with fail
  refine (HPA.out w4 k4).mono ?_
  rintro e w' ⟨rfl, rfl⟩
  go_wp2_with fail
  refine (HW2.out _ _ _).mono ?_
  rintro e w' ⟨rfl, rfl⟩
  go_wp2_with fail
  go_ret
  exact ⟨ret_bool (by simp), k4⟩
theorem asked_i2 (b : Nat) (t : Tr) (ao : Option Addr) (n cap : Nat) (l : List Int) (w : World) (hr : IsRope w b t) (hrow : Row .i32 w ao n cap l) (hf : ∀ x ∈ l, (Lit.int .i32 x).wf = true) (hl : t.list = l) (hn : n ≤ 1000000) (i : Nat) (tu : Int) (hb : ¬ (0 ≤ (i : Int) ∧ (i : Int) ≤ tu ∧ tu ≤ (n : Int))) (hin : i < n) :
    Calls Try.prog 11 #[.pointer (some ⟨b, 0, none⟩), .slice ao n cap, .int .i64 (i : Int), .int .i64 tu] w fun e w' => e = .returned (.bool true) ∧ Below w.heap.size w w' := by
  have hsz : t.size = n := by unfold Tr.size; rw [hl]; exact hrow.len
  have HLEN := hide hrow.len
  obtain ⟨i32, hi32, hz0, hz1, hz2⟩ := own32 w
  have HI : Hid (Try.prog.info? 21 = some i32) := hi32
  have HZ0 := hide hz0
  have HZ1 := hide hz1
  have HZ2 := hide hz2
  have HROW := hide hrow
  have HF := hide hf
  have HKA := hide (show KO w (w.alloc (.cells #[] 21)) from KO.alloc (KO.refl _) _)
  have HSL := hide (fun w' (hk : KO w w') => Slice_bad b t (i : Int) tu w' (hr.below hk) (by omega))
  have HWR := hide (fun ao cap w' => wrong_no ao n cap (i : Int) tu w' (by omega))
  have HAT := hide (fun w' (hk : KO w w') => At_pos b t i w' (hr.below hk) (by omega))
  rw [hl, if_pos (show i < t.size from by omega)] at HAT
  have HPA := hide (fun w' (hk : KO w w') => Para_ok b t i w' (hr.below hk) (by omega) (by omega))
  rw [hl] at HPA
  have HW2 := hide (fun ao cap w' => wrong_ok ao n cap (i : Int) (i : Int) w' (by omega) (by omega) (by omega))
  have e1 : ¬ ((i : Int) < 0) := by omega
  have e2 : (i : Int) < (n : Int) := by omega
  clear hr hrow hf hl hsz hi32 hz0 hz1 hz2
  go_enter Try.func11, Try.ntmps11
  go_wp2_with (at_builtin; refine wpList_append_row _ rfl (.tmp 20) (.tmp 21) 22 rfl w.heap.size 21 i32 (.int .i32 0) 4 Try.underlying22 HI.out HZ0.out HZ1.out HZ2.out rfl _ 0 [] rfl (owns_empty w 21 w.heap.size rfl) .i32 ao n cap l rfl (HROW.out.below HKA.out) (by omega) (by omega) (by simp) ?_; intro v2 w1 hown2 hb1)
  rw [List.nil_append, Nat.zero_add] at hown2
  obtain ⟨a1, c1, rfl, hr1⟩ := row_of_owns hown2
  have k1 : KO w w1 := Below.trans HKA.out hb1
  have HR1 := hide hr1
  have hc1 := hr1.le
  clear hown2 hb1 hr1
  refine (HSL.out w1 k1).mono ?_
  rintro e w3 ⟨rfl, hb2⟩
  have k3 : KO w w3 := KO.on k1 hb2
  have HR3 := hide (HR1.out.below hb2)
  clear hb2
  go_wp2_with fail
  refine (HWR.out _ _ _).mono ?_
  rintro e w' ⟨rfl, rfl⟩
  go_wp2_with fail
  refine (HAT.out w3 k3).mono ?_
  rintro e w4 ⟨rfl, hb4⟩
  have k4 : KO w w4 := KO.on k3 hb4
  have HR4 := hide (HR3.out.below hb4)
  obtain ⟨bq, oq, rfl, _, hcq⟩ := HR4.out.cells (by omega)
  have cq := hcq i (by have := HLEN.out; omega)
  generalize l.getD i 0 = xx at *
  clear hcq
  clear hb4
  go_wp2_with fail
  refine (HPA.out w4 k4).mono ?_
  rintro e w5 ⟨rfl, hb5⟩
  have k5 : KO w w5 := KO.on k4 hb5
  have HRP := hide (rpara_any _ n c1 l i w5 (HR4.out.below hb5) HF.out (by omega) (by omega))
  clear hb5
  go_wp2_with fail
  refine (HW2.out _ _ _).mono ?_
  rintro e w' ⟨rfl, rfl⟩
  go_wp2_with fail
  refine HRP.out.mono ?_
  rintro e w6 ⟨rfl, hb6⟩
  have k6 : KO w w6 := KO.on k5 hb6
  clear hb6
  go_wp2_with fail
  go_ret
  exact ⟨ret_bool (by simp), k6⟩
theorem asked_i3 (b : Nat) (t : Tr) (ao : Option Addr) (n cap : Nat) (l : List Int) (w : World) (hr : IsRope w b t) (hrow : Row .i32 w ao n cap l) (hf : ∀ x ∈ l, (Lit.int .i32 x).wf = true) (hl : t.list = l) (hn : n ≤ 1000000) (i : Nat) (tu : Int) (hb : ¬ (0 ≤ (i : Int) ∧ (i : Int) ≤ tu ∧ tu ≤ (n : Int))) (hin : ¬ i < n) (hin2 : i ≤ n) :
    Calls Try.prog 11 #[.pointer (some ⟨b, 0, none⟩), .slice ao n cap, .int .i64 (i : Int), .int .i64 tu] w fun e w' => e = .returned (.bool true) ∧ Below w.heap.size w w' := by
  have hsz : t.size = n := by unfold Tr.size; rw [hl]; exact hrow.len
  have HLEN := hide hrow.len
  obtain ⟨i32, hi32, hz0, hz1, hz2⟩ := own32 w
  have HI : Hid (Try.prog.info? 21 = some i32) := hi32
  have HZ0 := hide hz0
  have HZ1 := hide hz1
  have HZ2 := hide hz2
  have HROW := hide hrow
  have HF := hide hf
  have HKA := hide (show KO w (w.alloc (.cells #[] 21)) from KO.alloc (KO.refl _) _)
  have HSL := hide (fun w' (hk : KO w w') => Slice_bad b t (i : Int) tu w' (hr.below hk) (by omega))
  have HWR := hide (fun ao cap w' => wrong_no ao n cap (i : Int) tu w' (by omega))
  have HAT := hide (fun w' (hk : KO w w') => At_pos b t i w' (hr.below hk) (by omega))
  rw [hl, if_neg (show ¬ i < t.size from by omega), show l.getD i 0 = 0 from by simp [List.getD, List.getElem?_eq_none (show l.length ≤ i by have := hrow.len; omega)]] at HAT
  have HPA := hide (fun w' (hk : KO w w') => Para_ok b t i w' (hr.below hk) (by omega) (by omega))
  rw [hl] at HPA
  have HW2 := hide (fun ao cap w' => wrong_ok ao n cap (i : Int) (i : Int) w' (by omega) (by omega) (by omega))
  have e1 : ¬ ((i : Int) < 0) := by omega
  have e2 : ¬ ((i : Int) < (n : Int)) := by omega
  clear hr hrow hf hl hsz hi32 hz0 hz1 hz2
  go_enter Try.func11, Try.ntmps11
  go_wp2_with (at_builtin; refine wpList_append_row _ rfl (.tmp 20) (.tmp 21) 22 rfl w.heap.size 21 i32 (.int .i32 0) 4 Try.underlying22 HI.out HZ0.out HZ1.out HZ2.out rfl _ 0 [] rfl (owns_empty w 21 w.heap.size rfl) .i32 ao n cap l rfl (HROW.out.below HKA.out) (by omega) (by omega) (by simp) ?_; intro v2 w1 hown2 hb1)
  rw [List.nil_append, Nat.zero_add] at hown2
  obtain ⟨a1, c1, rfl, hr1⟩ := row_of_owns hown2
  have k1 : KO w w1 := Below.trans HKA.out hb1
  have HR1 := hide hr1
  have hc1 := hr1.le
  clear hown2 hb1 hr1
  refine (HSL.out w1 k1).mono ?_
  rintro e w3 ⟨rfl, hb2⟩
  have k3 : KO w w3 := KO.on k1 hb2
  have HR3 := hide (HR1.out.below hb2)
  clear hb2
  go_wp2_with fail
  refine (HWR.out _ _ _).mono ?_
  rintro e w' ⟨rfl, rfl⟩
  go_wp2_with fail
  refine (HAT.out w3 k3).mono ?_
  rintro e w4 ⟨rfl, hb4⟩
  have k4 : KO w w4 := KO.on k3 hb4
  have HR4 := hide (HR3.out.below hb4)
  clear hb4
  go_wp2_with fail
  refine (HPA.out w4 k4).mono ?_
  rintro e w5 ⟨rfl, hb5⟩
  have k5 : KO w w5 := KO.on k4 hb5
  have HRP := hide (rpara_any _ n c1 l i w5 (HR4.out.below hb5) HF.out (by omega) (by omega))
  clear hb5
  go_wp2_with fail
  refine (HW2.out _ _ _).mono ?_
  rintro e w' ⟨rfl, rfl⟩
  go_wp2_with fail
  refine HRP.out.mono ?_
  rintro e w6 ⟨rfl, hb6⟩
  have k6 : KO w w6 := KO.on k5 hb6
  clear hb6
  go_wp2_with fail
  go_ret
  exact ⟨ret_bool (by simp), k6⟩
theorem asked_i4 (b : Nat) (t : Tr) (ao : Option Addr) (n cap : Nat) (l : List Int) (w : World) (hr : IsRope w b t) (hrow : Row .i32 w ao n cap l) (hf : ∀ x ∈ l, (Lit.int .i32 x).wf = true) (hl : t.list = l) (hn : n ≤ 1000000) (i : Nat) (tu : Int) (hb : ¬ (0 ≤ (i : Int) ∧ (i : Int) ≤ tu ∧ tu ≤ (n : Int))) (hin : n < i) :
    Calls Try.prog 11 #[.pointer (some ⟨b, 0, none⟩), .slice ao n cap, .int .i64 (i : Int), .int .i64 tu] w fun e w' => e = .returned (.bool true) ∧ Below w.heap.size w w' := by
  have hsz : t.size = n := by unfold Tr.size; rw [hl]; exact hrow.len
  have HLEN := hide hrow.len
  obtain ⟨i32, hi32, hz0, hz1, hz2⟩ := own32 w
  have HI : Hid (Try.prog.info? 21 = some i32) := hi32
  have HZ0 := hide hz0
  have HZ1 := hide hz1
  have HZ2 := hide hz2
  have HROW := hide hrow
  have HF := hide hf
  have HKA := hide (show KO w (w.alloc (.cells #[] 21)) from KO.alloc (KO.refl _) _)
  have HSL := hide (fun w' (hk : KO w w') => Slice_bad b t (i : Int) tu w' (hr.below hk) (by omega))
  have HWR := hide (fun ao cap w' => wrong_no ao n cap (i : Int) tu w' (by omega))
  have HAT := hide (fun w' (hk : KO w w') => At_pos b t i w' (hr.below hk) (by omega))
  rw [hl, if_neg (show ¬ i < t.size from by omega), show l.getD i 0 = 0 from by simp [List.getD, List.getElem?_eq_none (show l.length ≤ i by have := hrow.len; omega)]] at HAT
  have HPA := hide (fun w' (hk : KO w w') => Para_bad b t (i : Int) w' (hr.below hk) (by omega))
  have HW2 := hide (fun ao cap w' => wrong_no ao n cap (i : Int) (i : Int) w' (by omega))
  have e1 : ¬ ((i : Int) < 0) := by omega
  have e2 : ¬ ((i : Int) < (n : Int)) := by omega
  clear hr hrow hf hl hsz hi32 hz0 hz1 hz2
  go_enter Try.func11, Try.ntmps11
  go_wp2_with (at_builtin; refine wpList_append_row _ rfl (.tmp 20) (.tmp 21) 22 rfl w.heap.size 21 i32 (.int .i32 0) 4 Try.underlying22 HI.out HZ0.out HZ1.out HZ2.out rfl _ 0 [] rfl (owns_empty w 21 w.heap.size rfl) .i32 ao n cap l rfl (HROW.out.below HKA.out) (by omega) (by omega) (by simp) ?_; intro v2 w1 hown2 hb1)
  rw [List.nil_append, Nat.zero_add] at hown2
  obtain ⟨a1, c1, rfl, hr1⟩ := row_of_owns hown2
  have k1 : KO w w1 := Below.trans HKA.out hb1
  have HR1 := hide hr1
  have hc1 := hr1.le
  clear hown2 hb1 hr1
  refine (HSL.out w1 k1).mono ?_
  rintro e w3 ⟨rfl, hb2⟩
  have k3 : KO w w3 := KO.on k1 hb2
  have HR3 := hide (HR1.out.below hb2)
  clear hb2
  go_wp2_with fail
  refine (HWR.out _ _ _).mono ?_
  rintro e w' ⟨rfl, rfl⟩
  go_wp2_with fail
  refine (HAT.out w3 k3).mono ?_
  rintro e w4 ⟨rfl, hb4⟩
  have k4 : KO w w4 := KO.on k3 hb4
  have HR4 := hide (HR3.out.below hb4)
  clear hb4
  go_wp2_with fail
  refine (HPA.out w4 k4).mono ?_
  rintro e w' ⟨rfl, rfl⟩
  go_wp2_with fail
  refine (HW2.out _ _ _).mono ?_
  rintro e w' ⟨rfl, rfl⟩
  go_wp2_with fail
  go_ret
  exact ⟨ret_bool (by simp), k4⟩
theorem asked_any (b : Nat) (t : Tr) (ao : Option Addr) (n cap : Nat) (l : List Int) (w : World) (hr : IsRope w b t) (hrow : Row .i32 w ao n cap l) (hf : ∀ x ∈ l, (Lit.int .i32 x).wf = true) (hl : t.list = l) (hn : n ≤ 1000000) (fr tu : Int) :
    Calls Try.prog 11 #[.pointer (some ⟨b, 0, none⟩), .slice ao n cap, .int .i64 fr, .int .i64 tu] w fun e w' => e = .returned (.bool true) ∧ Below w.heap.size w w' := by
  by_cases h0 : fr < 0
  · exact asked_i1 b t ao n cap l w hr hrow hf hl hn fr tu h0
  · obtain ⟨i, rfl⟩ : ∃ i : Nat, fr = (i : Int) := ⟨fr.toNat, by omega⟩
    by_cases hv : 0 ≤ (i : Int) ∧ (i : Int) ≤ tu ∧ tu ≤ (n : Int)
    · obtain ⟨j, rfl⟩ : ∃ j : Nat, tu = (j : Int) := ⟨tu.toNat, by omega⟩
      by_cases hin : i < n
      · exact asked_v1 b t ao n cap l w hr hrow hf hl hn i j (by omega) (by omega) hin
      · exact asked_v2 b t ao n cap l w hr hrow hf hl hn i j (by omega) (by omega) hin
    · rcases Nat.lt_trichotomy i n with hin | hin | hin
      · exact asked_i2 b t ao n cap l w hr hrow hf hl hn i tu hv hin
      · exact asked_i3 b t ao n cap l w hr hrow hf hl hn i tu hv (by omega) (by omega)
      · exact asked_i4 b t ao n cap l w hr hrow hf hl hn i tu hv hin
end Go.Proofs.Yteiljaecaahonaa
