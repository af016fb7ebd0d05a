/- The document's Base. -/
import Derived.Test.YthohbiklnknofaaRefp6
import Derived.Test.YthohbiklnknofaaBase
namespace Go.Proofs.Ythohbiklnknofaa
open Go.RowKit
set_option linter.unusedVariables false
set_option maxHeartbeats 1000000
set_option maxRecDepth 100000
theorem run_mid {P : Program} {t e : TypeId} {i : TypeInfo} (ht : P.underlying t = some (.slice e)) (hi : P.info? e = some i) (hc : P.cellsOf e = 1) (ao : Option Addr) (n cap j k : Nat) (hj : j ≤ k) (hk : k ≤ cap) (w : World) :
    (Instr.slice t (.slice ao n cap) (some (.int .i64 (j : Int))) (some (.int .i64 (k : Int))) none).run P w = .ok (.slice (tl ao cap j) (k - j) (cap - j)) w := by
  have e1 : (0 : Int) ≤ (j : Int) ∧ (j : Int) ≤ (k : Int) := by omega
  have e2 : (0 : Int) ≤ (k : Int) ∧ (k : Int) ≤ (cap : Int) := by omega
  simp [Instr.slice, run_underlying ht, Instr.sliceBounds, go_sem, e1, e2, run_sizeOf w hi, hc, tl]
  intro h; omega
theorem rbase_bad (ao : Option Addr) (n cap : Nat) (fr to : Int) (w : World) (hr : fr < 0 ∨ (n : Int) < to ∨ to < fr) :
    Calls Try.prog 66 #[.slice ao n cap, .int .i64 fr, .int .i64 to] w fun e w' => e = .returned (.tuple #[.int .i64 0, .int .i64 4]) ∧ w = w' := by
  have hr2 : fr < 0 ∨ (¬ fr < 0 ∧ (n : Int) < to) ∨ (¬ fr < 0 ∧ ¬ (n : Int) < to ∧ to < fr) := by omega
  clear hr
  rcases hr2 with h1 | ⟨h1, h2⟩ | ⟨h1, h2, h3⟩
  all_goals
    go_enter Try.func66, Try.ntmps66
    go_wp2
    go_ret2
    exact ⟨rfl, rfl⟩
theorem rbase_ok (ao : Option Addr) (n cap : Nat) (c : List Int) (f t : Nat) (w : World) (h : Row .i64 w ao n cap c) (hn : n * 8 ≤ 140737488351232) (hf : f ≤ t) (ht : t ≤ n) :
    Calls Try.prog 66 #[.slice ao n cap, .int .i64 (f : Int), .int .i64 (t : Int)] w fun e w' => e = .returned (.tuple #[.int .i64 (Iso.bso 0 ((c.take t).drop f)), .int .i64 0]) ∧ w = w' := by
  have hR2 := (h.take ht).drop hf
  obtain ⟨ii, hii, hy0, hy1, hy2⟩ := info_parts infoInt
  have hle := h.le
  have hsl := fun w' => run_mid Try.underlying22 hii cellsInt ao n cap f t hf (by omega) w'
  obtain ⟨seg, hseg⟩ : ∃ seg, (c.take t).drop f = seg := ⟨_, rfl⟩
  obtain ⟨m, hm⟩ : ∃ m, t - f = m := ⟨_, rfl⟩
  rw [hseg, hm] at hR2
  rw [hm] at hsl
  rw [hseg]
  obtain ⟨bo, hbo⟩ : ∃ bo, tl ao cap f = bo := ⟨_, rfl⟩
  obtain ⟨c2, hc2⟩ : ∃ c2, cap - f = c2 := ⟨_, rfl⟩
  rw [hbo, hc2] at hR2 hsl
  obtain ⟨R, hR⟩ : ∃ R, Iso.bso 0 seg = R := ⟨_, rfl⟩
  have HR := hide (show Iso.bso 0 (seg.drop 0) = R from hR)
  rw [hR]
  have H := hide hR2
  have HL := hide hR2.len
  have hn2 : m ≤ 17592186044416 := by omega
  have HPA := hide (fun (i : Nat) (hi : i < m) => partner_any bo m c2 seg i w hR2 (by omega) hi)
  have d1 : decide ((f : Int) < 0) = false := decide_eq_false (by omega)
  have d2 : decide ((n : Int) < (t : Int)) = false := decide_eq_false (by omega)
  have d3 : decide ((t : Int) < (f : Int)) = false := decide_eq_false (by omega)
  have d2n : decide (n < t) = false := decide_eq_false (by omega)
  have d3n : decide (t < f) = false := decide_eq_false (by omega)
  clear h hn hseg hR hm hbo hc2 hR2 hii hy0 hy1 hy2 hle
  go_enter Try.func66, Try.ntmps66
  go_wp2
  clear hsl
  go_loopw [9] (fun s9 wr => ∃ i : Nat, s9 = .int .i64 (i : Int) ∧ i ≤ m ∧ Hid (Iso.bso 0 (seg.drop i) = R) ∧ w = wr) (fun s9 _ => m - (intOf s9).toNat)
  case atStart => exact ⟨0, rfl, Nat.zero_le _, HR, rfl⟩
  case round =>
    obtain ⟨i, rfl, hi, hb, rfl⟩ := hrel
    by_cases hlt : i < m
    · have hil : i < seg.length := by rw [HL.out]; exact hlt
      obtain ⟨b, off, rfl, hbl, hc⟩ := H.out.cells (by omega)
      have ck : w.cell? ⟨b, off + i, none⟩ = some (.int .i64 (seg.getD i 0)) := hc i hil
      have hin : (i : Int) < (m : Int) := by omega
      have HB1 := hide (bs_one hil)
      have HB2 := hide (bs_two hil)
      have HB3 := hide (bs_next (o := 0) hil)
      have HB4 := hide (Iso.bso_init seg i hil)
      have HT := hide (Starts_any (seg.getD i 0) w)
      rw [hb.out] at HB1 HB2 HB3 HB4
      generalize seg.getD i 0 = x at *
      clear hc
      cases hs : Iso.st x with
      | true =>
        rw [hs] at HT
        have HE := hide (HB4.out hs)
        have HP := hide (HPA.out i hlt)
        have hp1 := Iso.partner_gt seg i
        have hp2 := Iso.partner_le seg i hil
        rw [HL.out] at hp2
        generalize Iso.partner seg i = q at *
        clear HB1 HB2 HB3 HB4 hs hil
        go_wp2_with (first
          | (go_at_call 47; refine HT.out.mono ?_; rintro e w' ⟨rfl, rfl⟩)
          | (go_at_call 48; refine HP.out.mono ?_; rintro e w' ⟨rfl, rfl⟩))
        go_roundw
        case rel => exact ⟨q, by go_num, by omega, hide HE.out.symm, trivial⟩
        case measure => simp [intOf]; omega
      | false =>
        rw [hs] at HT
        by_cases hx1 : x = 1
        · have HE := hide (HB1.out hx1)
          clear HB1 HB2 HB3 HB4 hs hil
          subst hx1
          go_wp2_with (go_at_call 47; refine HT.out.mono ?_; rintro e w' ⟨rfl, rfl⟩)
          go_ret2
          exact ⟨by rw [HE.out]; rfl, rfl⟩
        · by_cases hx2 : x = 2
          · have HE := hide (HB2.out (.inl hx2))
            clear HB1 HB2 HB3 HB4 hs hil
            subst hx2
            go_wp2_with (go_at_call 47; refine HT.out.mono ?_; rintro e w' ⟨rfl, rfl⟩)
            go_ret2
            exact ⟨by rw [HE.out]; rfl, rfl⟩
          · by_cases hx3 : x = 3
            · have HE := hide (HB2.out (.inr hx3))
              clear HB1 HB2 HB3 HB4 hs hil
              subst hx3
              go_wp2_with (go_at_call 47; refine HT.out.mono ?_; rintro e w' ⟨rfl, rfl⟩)
              go_ret2
              exact ⟨by rw [HE.out]; rfl, rfl⟩
            · have HE := hide (HB3.out fun _ => ⟨hx1, hx2, hx3⟩)
              have HF := hide (show Iso.bso 0 (seg.drop (i + 1)) = R from by rw [HE.out, nx_zero (by rw [hs]; decide)])
              have q1 : (x == 1) = false := beq_false_of_ne hx1
              have q2 : (x == 2) = false := beq_false_of_ne hx2
              have q3 : (x == 3) = false := beq_false_of_ne hx3
              clear HB1 HB2 HB3 HB4 hs hil HE hx1 hx2 hx3
              go_wp2_with (go_at_call 47; refine HT.out.mono ?_; rintro e w' ⟨rfl, rfl⟩)
              go_roundw
              case rel => exact ⟨i + 1, by go_num, by omega, HF, trivial⟩
              case measure => simp [intOf]; omega
    · have hne : ¬ ((i : Int) < (m : Int)) := by omega
      have HE := hide (show R = 0 from by rw [← hb.out]; exact bs_end _ _ _ (by rw [HL.out]; omega))
      clear hb
      go_wp2
      go_ret2
      exact ⟨by rw [HE.out]; rfl, rfl⟩
end Go.Proofs.Ythohbiklnknofaa
