/- Base: the direction of the first strong one. -/
import Derived.Test.YthohbiklnknofaaMatch
import Derived.WalkMore
import Derived.ScopeJumps
namespace Go.Proofs.Ythohbiklnknofaa
open Go.RowKit
set_option linter.unusedVariables false
set_option maxHeartbeats 1000000
set_option maxRecDepth 100000
theorem bs_end (l : List Int) (o i : Nat) (h : l.length ≤ i) : Iso.bso o (l.drop i) = 0 := by rw [List.drop_eq_nil_of_le h]; rfl
theorem bs_one {l : List Int} {i : Nat} (h : i < l.length) (hx : l.getD i 0 = 1) : Iso.bso 0 (l.drop i) = 0 := by
  rw [Iso.drop_at l i h, Iso.bso_cons, hx, if_pos (by decide)]
theorem bs_two {l : List Int} {i : Nat} (h : i < l.length) (hx : l.getD i 0 = 2 ∨ l.getD i 0 = 3) : Iso.bso 0 (l.drop i) = 1 := by
  rw [Iso.drop_at l i h, Iso.bso_cons, if_neg (by omega), if_pos ⟨rfl, hx⟩]
theorem bs_next {l : List Int} {o i : Nat} (h : i < l.length) (hx : o = 0 → ¬ l.getD i 0 = 1 ∧ ¬ l.getD i 0 = 2 ∧ ¬ l.getD i 0 = 3) : Iso.bso o (l.drop i) = Iso.bso (Iso.nx o (l.getD i 0)) (l.drop (i + 1)) := by
  rw [Iso.drop_at l i h, Iso.bso_cons, if_neg (fun h1 => (hx h1.1).1 h1.2), if_neg (fun h1 => h1.2.elim (hx h1.1).2.1 (hx h1.1).2.2)]
theorem nx_turn {o : Nat} (ho : 1 ≤ o) (x : Int) : (o : Int) + Iso.turn x = (Iso.nx o x : Nat) ∧ Iso.nx o x ≤ o + 1 := by
  unfold Iso.turn Iso.nx
  split
  · omega
  · split <;> omega
theorem nx_zero {x : Int} (h : ¬ Iso.st x = true) : Iso.nx 0 x = 0 := by
  unfold Iso.nx; rw [if_neg h]; split <;> rfl
theorem turn_one {x : Int} : (Iso.turn x == 1) = Iso.st x := by
  unfold Iso.turn
  cases h : Iso.st x with
  | true => simp
  | false => simp; split <;> simp
theorem getD_takeL {c : List Int} {t i : Nat} (h : i < t) : (c.take t).getD i 0 = c.getD i 0 := getD_take h
theorem base_bad (ao : Option Addr) (n cap : Nat) (fr to : Int) (w : World) (hr : fr < 0 ∨ (n : Int) < to ∨ to < fr) :
    Calls Try.prog 56 #[.slice ao n cap, .int .i64 fr, .int .i64 to] w fun e w' => e = .returned (.tuple #[.int .i64 0, .int .i64 4]) ∧ w = w' := by
  have hr2 : fr < 0 ∨ (¬ fr < 0 ∧ (n : Int) < to) ∨ (¬ fr < 0 ∧ ¬ (n : Int) < to ∧ to < fr) := by omega
  clear hr
  rcases hr2 with h1 | ⟨h1, h2⟩ | ⟨h1, h2, h3⟩
  all_goals
    go_enter Try.func56, Try.ntmps56
    go_wp2
    go_step3
    go_wp2
    rw [Exit.noGoto_ret]
    go_ret2
    exact ⟨rfl, rfl⟩
theorem base_ok (ao : Option Addr) (n cap : Nat) (c : List Int) (f t : Nat) (w : World) (h : Row .i64 w ao n cap c) (hn : n * 8 ≤ 140737488351232) (hf : f ≤ t) (ht : t ≤ n) :
    Calls Try.prog 56 #[.slice ao n cap, .int .i64 (f : Int), .int .i64 (t : Int)] w fun e w' => e = .returned (.tuple #[.int .i64 (Iso.bso 0 ((c.take t).drop f)), .int .i64 0]) ∧ w = w' := by
  have H := hide h
  have HL := hide h.len
  have hn2 : n ≤ 17592186044416 := by omega
  obtain ⟨seg, hseg⟩ : ∃ seg, c.take t = seg := ⟨_, rfl⟩
  have HSL := hide (show seg.length = t from by rw [← hseg, List.length_take, HL.out]; omega)
  have HSG := hide (fun (i : Nat) (hi : i < t) => (show seg.getD i 0 = c.getD i 0 from by rw [← hseg]; exact getD_takeL hi))
  rw [hseg]
  obtain ⟨R, hR⟩ : ∃ R, Iso.bso 0 (seg.drop f) = R := ⟨_, rfl⟩
  have HR := hide hR
  rw [hR]
  have d1 : decide ((f : Int) < 0) = false := decide_eq_false (by omega)
  have d2 : decide ((n : Int) < (t : Int)) = false := decide_eq_false (by omega)
  have d3 : decide ((t : Int) < (f : Int)) = false := decide_eq_false (by omega)
  have d2n : decide (n < t) = false := decide_eq_false (by omega)
  have d3n : decide (t < f) = false := decide_eq_false (by omega)
  clear h hn hseg hR
  go_enter Try.func56, Try.ntmps56
  go_wp2
  go_step3
  go_wp2
  go_step3
  go_wp2
  go_loopw [8] (fun s8 wr => ∃ i : Nat, s8 = .int .i64 (i : Int) ∧ i ≤ t + 1 ∧ Hid (Iso.bso 0 (seg.drop i) = R) ∧ w = wr) (fun s8 _ => t + 1 - (intOf s8).toNat)
  case atStart => exact ⟨f, rfl, by omega, HR, rfl⟩
  case round =>
    obtain ⟨i, rfl, hi, hb, rfl⟩ := hrel
    by_cases hlt : i < t
    · have hil : i < seg.length := by rw [HSL.out]; exact hlt
      obtain ⟨b, off, rfl, hbl, hc⟩ := H.out.cells (by omega)
      have ck : w.cell? ⟨b, off + i, none⟩ = some (.int .i64 (c.getD i 0)) := hc i (by rw [HL.out]; omega)
      rw [← HSG.out i hlt] at ck
      have hin : (i : Int) < (t : Int) := by omega
      have hin2 : (i : Int) < (n : Int) := by omega
      have HB1 := hide (bs_one hil)
      have HB2 := hide (bs_two hil)
      have HB3 := hide (bs_next (o := 0) hil)
      have HT := hide (turn_any (seg.getD i 0) w)
      rw [hb.out] at HB1 HB2 HB3
      generalize seg.getD i 0 = x at *
      clear hil hc
      by_cases hx1 : x = 1
      · have HE := hide (HB1.out hx1)
        clear HB1 HB2 HB3 HT
        go_wp2
        try rw [Exit.noGoto_ret]
        go_ret2
        exact ⟨by rw [HE.out]; rfl, rfl⟩
      · by_cases hx2 : x = 2
        · have HE := hide (HB2.out (.inl hx2))
          clear HB1 HB2 HB3 HT
          go_wp2
          try rw [Exit.noGoto_ret]
          go_ret2
          exact ⟨by rw [HE.out]; rfl, rfl⟩
        · by_cases hx3 : x = 3
          · have HE := hide (HB2.out (.inr hx3))
            clear HB1 HB2 HB3 HT
            go_wp2
            try rw [Exit.noGoto_ret]
            go_ret2
            exact ⟨by rw [HE.out]; rfl, rfl⟩
          · have HE := hide (HB3.out fun _ => ⟨hx1, hx2, hx3⟩)
            cases hs : Iso.st x with
            | false =>
              have htn : (Iso.turn x == 1) = false := by rw [turn_one, hs]
              have HF := hide (show Iso.bso 0 (seg.drop (i + 1)) = R from by rw [HE.out, nx_zero (by rw [hs]; decide)])
              generalize Iso.turn x = tx at *
              clear HB1 HB2 HB3 HE hs
              go_wp2_with (go_at_call 35; refine HT.out.mono ?_; rintro e w' ⟨rfl, rfl⟩)
              go_roundw
              case rel => exact ⟨i + 1, by go_num, by omega, HF, trivial⟩
              case measure => simp [intOf]; omega
            | true =>
              have htn : Iso.turn x = 1 := by unfold Iso.turn; rw [if_pos hs]
              rw [htn] at HT
              have HF := hide (show Iso.bso 1 (seg.drop (i + 1)) = R from by rw [HE.out, Iso.nx, if_pos hs])
              clear HB1 HB2 HB3 HE hs htn
              go_wp2_with (go_at_call 35; refine HT.out.mono ?_; rintro e w' ⟨rfl, rfl⟩)
              go_loopw [8, 9] (fun s8 s9 wr => ∃ j o : Nat, s8 = .int .i64 (j : Int) ∧ s9 = .int .i64 (o : Int) ∧ i < j ∧ j ≤ t ∧ 1 ≤ o ∧ o ≤ j ∧ Hid (Iso.bso o (seg.drop j) = R) ∧ w = wr) (fun s8 _ _ => t + 1 - (intOf s8).toNat)
              case atStart => exact ⟨i + 1, 1, by go_num, rfl, by omega, by omega, Nat.le_refl _, by omega, HF, rfl⟩
              case round =>
                obtain ⟨j, o, rfl, rfl, hij, hj, ho, hoj, hbj, rfl⟩ := hrel
                by_cases hjt : j < t
                · have hjl : j < seg.length := by rw [HSL.out]; exact hjt
                  obtain ⟨b2, off2, e2, hbl2, hc2⟩ := H.out.cells (by omega)
                  simp only [Option.some.injEq, Addr.mk.injEq, and_true] at e2
                  obtain ⟨rfl, rfl⟩ := e2
                  have cj : w.cell? ⟨b, off + j, none⟩ = some (.int .i64 (c.getD j 0)) := hc2 j (by rw [HL.out]; omega)
                  rw [← HSG.out j hjt] at cj
                  have hjn : (j : Int) < (t : Int) := by omega
                  have hjn2 : (j : Int) < (n : Int) := by omega
                  have HBN := hide (bs_next (o := o) hjl (fun h0 => by omega))
                  rw [hbj.out] at HBN
                  have HTJ := hide (turn_any (seg.getD j 0) w)
                  obtain ⟨et, hle⟩ := nx_turn ho (seg.getD j 0)
                  generalize seg.getD j 0 = y at *
                  generalize Iso.nx o y = q at *
                  have ety : Iso.turn y = (q : Int) - (o : Int) := by omega
                  rw [ety] at HTJ
                  have eq1 : (o : Int) + ((q : Int) - (o : Int)) = (q : Int) := by omega
                  clear hjl hc2 et ety ck HT hin hin2 HF hbj
                  rcases Nat.eq_zero_or_pos q with rfl | hq
                  · have e0 : ((o : Int) + -(o : Int) == 0) = true := beq_iff_eq.2 (by omega)
                    go_wp2_with (go_at_call 35; refine HTJ.out.mono ?_; rintro e w' ⟨rfl, rfl⟩)
                    exact ⟨⟨j + 1, by go_num, by omega, hide HBN.out.symm, trivial⟩, by simp [intOf]; omega⟩
                  · have hq0 : ((q : Int) == 0) = false := beq_false_of_ne (by omega)
                    go_wp2_with (go_at_call 35; refine HTJ.out.mono ?_; rintro e w' ⟨rfl, rfl⟩)
                    go_roundw
                    case rel => exact ⟨j + 1, q, by go_num, by go_num, by omega, by omega, hq, by omega, hide HBN.out.symm, trivial⟩
                    case measure => simp [intOf]; omega
                · have hjn : ¬ ((j : Int) < (t : Int)) := by omega
                  have hj2 : j = t := by omega
                  have HE0 := hide (bs_end seg o j (by rw [HSL.out]; omega))
                  rw [hbj.out] at HE0
                  have HE1 := hide (bs_end seg 0 (t + 1) (by rw [HSL.out]; omega))
                  go_wp2
                  exact ⟨⟨t + 1, by go_num, by omega, hide (HE1.out.trans HE0.out.symm), trivial⟩, by simp [intOf]; omega⟩
    · have hne : ¬ ((i : Int) < (t : Int)) := by omega
      have HE := hide (show R = 0 from by rw [← hb.out]; exact bs_end _ _ _ (by rw [HSL.out]; omega))
      clear hb
      go_wp2
      try rw [Exit.noGoto_ret]
      go_ret2
      exact ⟨by rw [HE.out]; rfl, rfl⟩
end Go.Proofs.Ythohbiklnknofaa
