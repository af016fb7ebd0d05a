/- ParaCovers: paragraphs are all of a text, without a gap. -/
import Derived.Test.YteiljaecaahonabWorks
namespace Go.Proofs.Yteiljaecaahonab
open Go.RowKit
set_option linter.unusedVariables false
set_option maxHeartbeats 4000000
set_option maxRecDepth 100000
theorem belowDN (w : World) (k : Nat) : Below w.heap.size w (w.drewN k) := by have h := Below.refl w.heap.size w; exact ⟨h.os, h.tape, h.output, h.size, h.block⟩
/-- A separator stands just at a paragraph's end. -/
theorem sep_ends (l : List Int) (k i : Nat) (hk : k ≤ seps l) (h1 : bh l k ≤ i) (h2 : i < bh l (k + 1)) : Ucd.cls (l.getD i 0) = 11 ↔ (k < seps l ∧ i + 1 = bh l (k + 1)) := by
  have hi : i < l.length := Nat.lt_of_lt_of_le h2 (bh_le _ _)
  have hw := seps_within l i k hk h1 h2
  have hs := seps_snoc l i hi
  rw [hw] at hs
  constructor
  · intro h
    have h3 := sep_yes h
    have h4 := bh_at l i hi h3
    rw [hw] at h4
    have h5 := seps_take_le l (i + 1)
    omega
  · rintro ⟨h3, h4⟩
    rw [h4, seps_take_bh l (k + 1) (by omega)] at hs
    unfold sep at hs
    split at hs
    · assumption
    · omega
theorem meas_g (g i : Nat) (h : i < g) : g - (intOf (.int .i64 ((i + 1 : Nat) : Int))).toNat < g - (intOf (.int .i64 (i : Int))).toNat := by simp [intOf]; omega
theorem meas_kk (S k : Nat) (h : k ≤ S) : S + 2 - (intOf (.int .i64 ((k + 1 : Nat) : Int))).toNat < S + 2 - (intOf (.int .i64 (k : Int))).toNat := by simp [intOf]; omega
theorem pars_getD (l : List Int) (k : Nat) (h : k ≤ seps l) : (pars l).getD k (0, 0) = (bh l k, bh l (k + 1)) := by
  simp [List.getD, pars_at l k h, parAt]
theorem ParaCovers_walk (w : World) (a0 : Option Addr) (n0 cap0 : Nat) (l : List Int) (h0 : Row .i32 w a0 n0 cap0 l) (hf0 : ∀ x ∈ l, (Lit.int .i32 x).wf = true) (hs0 : n0 * 4 ≤ 140737488351232) :
    Calls Try.prog 4 #[.slice a0 n0 cap0] w fun e w' => e = .returned (.bool true) ∧ Below w.heap.size w w' := by
  have HW := hide (pworks_any w)
  by_cases hbig : n0 ≤ 300
  · have e0 : ¬ ((300 : Int) < (n0 : Int)) := by omega
    have HB := hide (fun w' (hk : KO w w') => bounds_any a0 n0 cap0 l w' (h0.below hk) hf0 (by omega))
    have HFI := hide (fun w' (hk : KO w w') (i : Nat) (hi : i ≤ n0) => find_ok a0 n0 cap0 l i w' (h0.below hk) hf0 hi)
    have H0 := hide h0
    have HF0 := hide hf0
    have HL0 := hide h0.len
    obtain ⟨S, hS⟩ : ∃ S, seps l = S := ⟨_, rfl⟩
    have hSn : S ≤ 300 := by rw [← hS]; have := seps_le l; have := h0.len; omega
    rw [hS] at HB
    have HS := hide hS
    clear h0 hf0 hs0 hS
    go_enter Try.func4, Try.ntmps4
    go_wp2_with fail
    refine HW.out.mono ?_
    rintro e w1 ⟨rfl, hb1⟩
    have HB2 := hide (HB.out w1 hb1)
    clear HB
    go_wp2_with fail
    refine HB2.out.mono ?_
    rintro e w2 ⟨a1, c1, rfl, hp, hb2⟩
    have k2 : KO w w2 := KO.on hb1 hb2
    obtain ⟨b, rfl, hbl, hc⟩ := hp.cells (by omega)
    have HC := hide (fun (k : Nat) (hk : k ≤ S) => (show w2.cell? ⟨b, k * 2, none⟩ = some (.int .i64 (bh l k : Int)) ∧ w2.cell? ⟨b, k * 2 + 1, none⟩ = some (.int .i64 (bh l (k + 1) : Int)) from by
      have := hc k (by omega); rw [pars_getD l k (by rw [HS.out]; exact hk)] at this; exact this))
    have c00 := (HC.out 0 (by omega)).1
    have c01 := (HC.out S (by omega)).2
    rw [bh_end l (S + 1) (by rw [HS.out]; omega), HL0.out] at c01
    rw [bh_zero, Nat.zero_mul] at c00
    have e1 : ((S + 1 : Nat) : Int) - 1 = (S : Int) := by omega
    have eS : ((S : Int) + 1 == 0) = false := beq_false_of_ne (by omega)
    have HP := hide hp
    clear hp hb1 hb2 hc HB2 HW
    go_wp2_with fail
    go_loopw [43] (fun v wr => ∃ k : Nat, v = .int .i64 (k : Int) ∧ k ≤ S + 1 ∧ KO w2 wr) (fun v _ => S + 2 - (intOf v).toNat)
    case atStart => exact ⟨0, rfl, by omega, KO.refl _⟩
    case round =>
      obtain ⟨k, rfl, hk, hkr⟩ := hrel
      clear c00 c01
      by_cases hkS : k ≤ S
      · obtain ⟨f, hf⟩ : ∃ f, bh l k = f := ⟨_, rfl⟩
        obtain ⟨g, hg⟩ : ∃ g, bh l (k + 1) = g := ⟨_, rfl⟩
        have hfg : f ≤ g := by rw [← hf, ← hg]; exact bh_mono l k (by rw [HS.out]; exact hkS)
        have hgn : g ≤ n0 := by rw [← hg, ← HL0.out]; exact bh_le l _
        have hlt : k < S → f < g := fun h => by rw [← hf, ← hg]; exact bh_lt l k (by rw [HS.out]; exact h)
        have ck0 : wr.cell? ⟨b, k * 2, none⟩ = some (.int .i64 (f : Int)) := by rw [← hf]; exact (Below.cell hkr (by exact hbl)).trans (HC.out k hkS).1
        have ck1 : wr.cell? ⟨b, k * 2 + 1, none⟩ = some (.int .i64 (g : Int)) := by rw [← hg]; exact (Below.cell hkr (by exact hbl)).trans (HC.out k hkS).2
        have hblr : b < wr.heap.size := Nat.lt_of_lt_of_le hbl (Below.size hkr)
        obtain ⟨j, hj⟩ : ∃ j, k - 1 = j := ⟨_, rfl⟩
        have cj : 0 < k → wr.cell? ⟨b, j * 2 + 1, none⟩ = some (.int .i64 (f : Int)) := fun h => by
          have := (Below.cell hkr (p := ⟨b, j * 2 + 1, none⟩) (by exact hbl)).trans (HC.out j (by omega)).2
          rw [show j + 1 = k from by omega, hf] at this; exact this
        obtain ⟨W5, hW5⟩ : ∃ W5, wr.alloc (.cells #[.int .i64 (f : Int), .int .i64 (g : Int)] 31) = W5 := ⟨_, rfl⟩
        have hk5 : KO wr W5 := by rw [← hW5]; exact KO.alloc (KO.refl _) _
        have x0 : W5.cell? ⟨wr.heap.size, 0, none⟩ = some (.int .i64 (f : Int)) := by rw [← hW5, World.cell?_alloc_mark]; rfl
        have x1 : W5.cell? ⟨wr.heap.size, 1, none⟩ = some (.int .i64 (g : Int)) := by rw [← hW5, World.cell?_alloc_mark]; rfl
        have hx5 : wr.heap.size < W5.heap.size := by rw [← hW5]; simp
        have e2 : decide ((g : Int) < (f : Int)) = false := decide_eq_false (by omega)
        have e2n : decide (g < f) = false := decide_eq_false (by omega)
        have hcase : (k = 0 ∧ decide ((0 : Int) < (k : Int)) = false ∧ decide (0 < k) = false ∨ 0 < k ∧ decide ((0 : Int) < (k : Int)) = true ∧ decide (0 < k) = true ∧ (k : Int) - 1 = (j : Int) ∧ (j : Int) < (S : Int) + 1 ∧ W5.cell? ⟨b, j * 2 + 1, none⟩ = some (.int .i64 (f : Int))) := by
          rcases Nat.eq_zero_or_pos k with h | h
          · exact .inl ⟨h, decide_eq_false (by omega), decide_eq_false (by omega)⟩
          · exact .inr ⟨h, decide_eq_true (by omega), decide_eq_true h, by omega, by omega, (hk5.cell (by exact hblr)).trans (cj h)⟩
        have hcase2 : (k < S ∧ decide ((k : Int) + 1 < (S : Int) + 1) = true ∧ decide ((k : Int) < (S : Int)) = true ∧ decide (k < S) = true ∧ ((f : Int) == (g : Int)) = false) ∨ (k = S ∧ decide ((k : Int) + 1 < (S : Int) + 1) = false ∧ decide ((k : Int) < (S : Int)) = false ∧ decide (k < S) = false) := by
          rcases Nat.lt_or_ge k S with h | h
          · exact .inl ⟨h, decide_eq_true (by omega), decide_eq_true (by omega), decide_eq_true h, beq_false_of_ne (by have := hlt h; omega)⟩
          · exact .inr ⟨by omega, decide_eq_false (by omega), decide_eq_false (by omega), decide_eq_false (by omega)⟩
        have ekS : (k : Int) < (S : Int) + 1 := by omega
        have HKS := hide hkS
        have HF := hide hf
        have HG := hide hg
        have HFG := hide hfg
        have HGN := hide hgn
        have HKR := hide hkr
        have HK5 := hide hk5
        have HX0 := hide x0
        have HX1 := hide x1
        have HX5 := hide hx5
        have HKK := hide hk
        have HBL := hide hbl
        clear hf hg hfg hgn hlt hkS hk hkr cj hj hblr hbl
        rcases hcase with ⟨hz, q1, q1n⟩ | ⟨hz, q1, q1n, q2, q3, cj⟩ <;> rcases hcase2 with ⟨hy, q4, q4m, q4n, q5⟩ | ⟨hy, q4, q4m, q4n⟩
        all_goals (
          have HZ := hide hz
          have HY := hide hy
          clear hz hy
          go_wp2_with fail
          go_quiet (fail)
          have HWW := hide (KO.on (KO.on k2 HKR.out) HK5.out)
          clear ck0 ck1 hx5 hW5 hk5
          try clear cj
          go_wp2_with fail
          clear x0 x1
          generalize wr.heap.size = bx at *
          go_loopw [6] (fun v wi => ∃ i : Nat, v = .int .i64 (i : Int) ∧ Hid (f ≤ i ∧ i ≤ g) ∧ KO W5 wi) (fun v _ => g - (intOf v).toNat)
          case atStart => exact ⟨f, rfl, ⟨Nat.le_refl _, HFG.out⟩, belowDN _ _⟩
          case round =>
            obtain ⟨i, rfl, hi, hki⟩ := hrel
            have y1 : wr.cell? ⟨bx, 1, none⟩ = some (.int .i64 (g : Int)) := (Below.cell hki (by exact HX5.out)).trans HX1.out
            have hW : KO w wr := KO.on HWW.out hki
            have hgn := HGN.out
            by_cases hig : i < g
            · have hig2 : (i : Int) < (g : Int) := by omega
              have hks : k ≤ seps l := by rw [HS.out]; exact HKS.out
              have hfi : bh l k ≤ i := by rw [HF.out]; exact hi.out.1
              have hgi : i < bh l (k + 1) := by rw [HG.out]; exact hig
              have hse := sep_ends l k i hks hfi hgi
              rw [HS.out, HG.out] at hse
              have hF := HFI.out wr hW i (by omega)
              rw [seps_within l i k hks hfi hgi] at hF
              have HFn := hide hF
              obtain ⟨b0, o0, rfl, hb0, hc0⟩ := H0.out.cells (by omega)
              have hil : i < l.length := by rw [HL0.out]; omega
              have hxf : (Lit.int .i32 (l.getD i 0)).wf = true := HF0.out _ (by rw [show l.getD i 0 = l[i] from by simp [List.getD, List.getElem?_eq_getElem hil]]; exact List.getElem_mem _)
              have hc := hc0 i hil
              have HCL := hide (fun w' => class_any (l.getD i 0) w' hxf)
              obtain ⟨cx, hcx⟩ : ∃ cx, Ucd.cls (l.getD i 0) = cx := ⟨_, rfl⟩
              rw [hcx] at hse HCL
              have hend : (cx = 11 ∧ k < S ∧ i + 1 = g) ∨ (¬ cx = 11 ∧ (k < S → ((i : Int) == (g : Int) - 1) = false)) := by
                by_cases h : cx = 11
                · exact .inl ⟨h, hse.1 h⟩
                · exact .inr ⟨h, fun hk => beq_false_of_ne (fun h2 => h (hse.2 ⟨hk, by omega⟩))⟩
              have hi3 : i + 1 ≤ 300 := by omega
              have hg3 : g ≤ 300 := by omega
              have HIG := hide hig
              have hin : (i : Int) < (n0 : Int) := by omega
              generalize l.getD i 0 = x at *
              clear hks hfi hgi hse hF hc0 hil hxf hcx hig hgn
              go_wp2_with (go_at_call 14; refine HFn.out.mono ?_; rintro e w3 ⟨rfl, hb3⟩; have k3 : KO w w3 := KO.on hW hb3; have c3 : w3.cell? ⟨b0, o0 + i, none⟩ = some (.int .i32 x) := (Below.cell k3 (by exact hb0)).trans hc)
              refine (HCL.out _).mono ?_
              rintro e w4 ⟨rfl, hb4⟩
              have k34 : KO W5 w4 := KO.on (KO.on hki hb3) hb4
              have y4 : w4.cell? ⟨bx, 1, none⟩ = some (.int .i64 (g : Int)) := (Below.cell k34 (by exact HX5.out)).trans HX1.out
              clear hb3 hb4 k3 c3 hc
              rcases hend with ⟨rfl, hkS2, hgg⟩ | ⟨h11, hno⟩
              · first
                | (exact absurd hkS2 (by have := HY.out; omega))
                | (have e9 : ((i : Int) == (g : Int) - 1) = true := beq_iff_eq.2 (by omega)
                   clear hgg hkS2
                   go_wp2_with fail
                   exact ⟨⟨i + 1, by go_num, ⟨Nat.le_succ_of_le hi.out.1, HIG.out⟩, k34⟩, meas_g g i HIG.out⟩)
              · have e10 : (cx == 11) = false := beq_false_of_ne h11
                first
                | (have e9 := hno HY.out
                   clear hno
                   go_wp2_with fail
                   exact ⟨⟨i + 1, by go_num, ⟨Nat.le_succ_of_le hi.out.1, HIG.out⟩, k34⟩, meas_g g i HIG.out⟩)
                | (clear hno
                   go_wp2_with fail
                   exact ⟨⟨i + 1, by go_num, ⟨Nat.le_succ_of_le hi.out.1, HIG.out⟩, k34⟩, meas_g g i HIG.out⟩)
            · have hig2 : ¬ ((i : Int) < (g : Int)) := by omega
              clear hig
              go_wp2_with fail
              exact ⟨⟨k + 1, by go_num, Nat.succ_le_succ HKS.out, KO.on (KO.on HKR.out HK5.out) hki⟩, meas_kk S k HKS.out⟩)
      · have hks : k = S + 1 := by omega
        have e2 : ¬ ((k : Int) < (S : Int) + 1) := by omega
        have hW : KO w wr := KO.on k2 hkr
        have hF := HFI.out wr hW n0 (Nat.le_refl _)
        rw [← HL0.out, List.take_length, HS.out, HL0.out] at hF
        have HFn := hide hF
        clear hF hkS hks hk hkr
        go_wp2_with (go_at_call 14; refine HFn.out.mono ?_; rintro e w3 ⟨rfl, hb3⟩)
        go_ret
        exact ⟨ret_bool (by simp), KO.on hW hb3⟩
  · have e0 : (300 : Int) < (n0 : Int) := by omega
    clear h0 hf0 hs0 hbig
    go_enter Try.func4, Try.ntmps4
    go_wp2_with (go_at_call 12; refine HW.out.mono ?_; rintro e w1 ⟨rfl, hb1⟩)
    go_ret
    exact ⟨rfl, hb1⟩
end Go.Proofs.Yteiljaecaahonab
