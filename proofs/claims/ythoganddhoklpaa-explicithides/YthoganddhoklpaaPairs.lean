/- ExplicitPairs: an initiator and its PDI have one level, and one override; plain paragraphs have the base level. -/
import Derived.Test.YthoganddhoklpaaExp
import Derived.Test.YthoganddhoklpaaLevels
namespace Go.Proofs.Ythoganddhoklpaa
open Go.RowKit
set_option linter.unusedVariables false
set_option maxHeartbeats 2000000
set_option maxRecDepth 100000
theorem em_cases (x : Int) : (Ex.em x = true ∧ (x = 17 ∨ (¬ x = 17 ∧ x = 15) ∨ (¬ x = 17 ∧ ¬ x = 15 ∧ x = 18) ∨ (¬ x = 17 ∧ ¬ x = 15 ∧ ¬ x = 18 ∧ x = 16))) ∨ (Ex.em x = false ∧ ¬ x = 17 ∧ ¬ x = 15 ∧ ¬ x = 18 ∧ ¬ x = 16) := by
  cases h : Ex.em x with
  | true =>
    left
    unfold Ex.em at h
    simp only [Bool.or_eq_true, beq_iff_eq] at h
    exact ⟨rfl, by omega⟩
  | false =>
    right
    unfold Ex.em at h
    simp only [Bool.or_eq_false_iff, beq_eq_false_iff_ne] at h
    exact ⟨rfl, by omega⟩
theorem row_cell {W : World} {b n : Nat} {zs : List Int} (h : Row .i64 W (some ⟨b, 0, none⟩) n n zs) {k : Nat} (hk : k < n) : W.cell? ⟨b, k, none⟩ = some (.int .i64 (zs.getD k 0)) := by
  obtain ⟨_, _, e, _, hc⟩ := h.cells (by omega)
  simp only [Option.some.injEq, Addr.mk.injEq, and_true] at e
  obtain ⟨rfl, rfl⟩ := e
  have := hc k (by rw [h.len]; exact hk)
  rw [Nat.zero_add] at this
  exact this
theorem ExplicitPairs_walk (w : World) (a0 : Option Addr) (n0 cap0 : Nat) (c : List Int) (h0 : Row .i64 w a0 n0 cap0 c) (hf0 : ∀ x ∈ c, (Lit.int .i64 x).wf = true) (hs0 : n0 * 8 ≤ 140737488351232) (b : Int) (hwb : (Lit.int .i64 b).wf = true) :
    Calls Try.prog 6 #[.slice a0 n0 cap0, .int .i64 b] w fun e w' => e = .returned (.bool true) ∧ Below w.heap.size w w' := by
  have HW := hide (works7_any w)
  have H0 := hide h0
  by_cases hbig : 2000 < (n0 : Int)
  · clear h0 hf0 hs0
    go_enter Try.func6, Try.ntmps6
    go_wp2_with (go_at_call 9; refine HW.out.mono ?_; rintro e w1 ⟨rfl, hb1⟩)
    go_ret
    exact ⟨rfl, hb1⟩
  · rcases base_cases b with hb | hb
    · have HR := hide (fun w' => resolve_arg a0 n0 cap0 b w' hb)
      clear h0 hf0 hs0
      go_enter Try.func6, Try.ntmps6
      go_wp2_with (first
        | (go_at_call 9; refine HW.out.mono ?_; rintro e w1 ⟨rfl, hb1⟩)
        | (go_at_call 10; refine (HR.out _).mono ?_; rintro e w2 ⟨rfl, rfl⟩))
      go_ret
      exact ⟨rfl, hb1⟩
    · by_cases hF : Ex.Formed c
      · have HR := hide (fun w' (hk : KO w w') => resolve_ok a0 n0 cap0 c b w' (h0.below hk) hs0 hb hF)
        have HM := hide (fun w' (hk : KO w w') => match_any a0 n0 cap0 c w' (h0.below hk) hs0)
        have HL := hide h0.len
        have hb0 : 0 ≤ b := by omega
        have hb1' : b ≤ 1 := by omega
        have hn2 : n0 ≤ 2000 := by omega
        clear h0 hf0 hs0 hF
        go_enter Try.func6, Try.ntmps6
        go_wp2_with fail
        refine HW.out.mono ?_
        rintro e w1 ⟨rfl, hb1⟩
        have HB1 := hide hb1
        clear hb1
        go_wp2_with fail
        refine (HR.out w1 HB1.out).mono ?_
        rintro e w2 ⟨bl, bt, rfl, rl, rt, hb2⟩
        have HB2 := hide (HB1.out.trans (hb2.mono HB1.out.size))
        clear hb2 HB1 HR
        go_wp2_with fail
        refine (HM.out w2 HB2.out).mono ?_
        rintro e W ⟨rfl, hom, hbm⟩
        have HRL := hide (rl.below hbm)
        have HRT := hide (rt.below hbm)
        have HRM := hide (row_owned hom)
        have HB := hide (HB2.out.trans (hbm.mono HB2.out.size))
        clear rl rt hom hbm HB2 HM
        generalize w2.heap.size = bm at *
        go_wp2_with fail
        go_loopw [9, 54] (fun s9 s54 wr => ∃ k nq : Nat, k ≤ n0 ∧ s54 = .int .i64 (k : Int) ∧ s9 = .bool (Ex.pl c k) ∧ wr = W.drewN nq) (fun _ s54 _ => n0 - (intOf s54).toNat)
        case atStart => exact ⟨0, 0, Nat.zero_le _, rfl, rfl, rfl⟩
        case round =>
          obtain ⟨k, nq, hk, rfl, rfl, rfl⟩ := hrel
          by_cases hlt : k < n0
          · have hkl : k < c.length := by rw [HL.out]; exact hlt
            obtain ⟨cb, off, rfl, hbl, hc⟩ := (H0.out.below HB.out).cells (by omega)
            have ck : W.cell? ⟨cb, off + k, none⟩ = some (.int .i64 (c.getD k 0)) := hc k hkl
            have cl : W.cell? ⟨bl, k, none⟩ = some (.int .i64 (Ex.lev b (Ex.s0 b) c k)) := by rw [← Ex.LV_at b c k hkl]; exact row_cell HRL.out hlt
            have ct : W.cell? ⟨bt, k, none⟩ = some (.int .i64 (Ex.typ (Ex.s0 b) c k)) := by rw [← Ex.TY_at b c k hkl]; exact row_cell HRT.out hlt
            have cm : W.cell? ⟨bm, k, none⟩ = some (.int .i64 ((Iso.MT c).getD k 0)) := row_cell HRM.out hlt
            have hmt : Iso.st (c.getD k 0) = true → (Iso.MT c).getD k 0 = (Iso.partner c k : Int) := fun hs => by rw [Iso.MT_at c k hkl]; unfold Iso.mt; rw [if_pos hs]
            have HCQ := hide (fun (q : Nat) (hq : q < n0) => (⟨by rw [← Ex.LV_at b c q (by rw [HL.out]; exact hq)]; exact row_cell HRL.out hq, by rw [← Ex.TY_at b c q (by rw [HL.out]; exact hq)]; exact row_cell HRT.out hq⟩ : W.cell? ⟨bl, q, none⟩ = some (.int .i64 (Ex.lev b (Ex.s0 b) c q)) ∧ W.cell? ⟨bt, q, none⟩ = some (.int .i64 (Ex.typ (Ex.s0 b) c q))))
            have HPR := hide (fun (hs : Iso.st (c.getD k 0) = true) (hq : Iso.partner c k < c.length) => Ex.lev_pair b (Ex.s0 b) hs hq)
            have hpl : Ex.pl c (k + 1) = (Ex.pl c k && !(Ex.em (c.getD k 0)) && !(Iso.st (c.getD k 0))) := rfl
            have hpq := Iso.partner_le c k hkl
            have hov := (Ex.Ok.at (b := b) c k).ch.ov
            have HST := hide (fun (hs : Iso.st (c.getD k 0) = true) => Ex.st_kept hs)
            rw [HL.out] at HPR hpq
            have hin : (k : Int) < (n0 : Int) := by omega
            generalize Ex.at' (Ex.s0 b) c k = S at *
            generalize Ex.lev b (Ex.s0 b) c k = lv at *
            generalize Ex.typ (Ex.s0 b) c k = tv at *
            generalize (Iso.MT c).getD k 0 = mk at *
            generalize Iso.partner c k = q at *
            generalize c.getD k 0 = x at *
            clear hc hkl
            go_upto_region 15 with fail
            go_cut [9] from 59 to 75 (fun s9 wx => s9 = .bool (Ex.pl c k && !(Ex.em x)) ∧ wx = W.drewN nq)
            case first =>
              cases hp : Ex.pl c k with
              | false =>
                go_wp2
                go_meet
                exact ⟨by rw [hp]; rfl, rfl⟩
              | true =>
                rcases em_cases x with ⟨he, h | ⟨h1, h⟩ | ⟨h1, h2, h⟩ | ⟨h1, h2, h3, h⟩⟩ | ⟨he, h1, h2, h3, h4⟩
                all_goals
                  have HE := hide he
                  clear he
                  go_wp2
                  go_meet
                  exact ⟨by first | (rw [hp, HE.out]; rfl) | (simp [hp, HE.out, h1, h2, h3, h4]), rfl⟩
            obtain ⟨rfl, rfl⟩ := hcut
            go_upto_region 16 with fail
            go_cut [85] from 76 to 85 (fun s85 wx => s85 = .bool (Iso.st x) ∧ wx = W.drewN nq)
            case first =>
              by_cases h21 : x = 21
              · subst h21
                go_wp2
                go_meet
                exact ⟨rfl, rfl⟩
              · by_cases h20 : x = 20
                · subst h20
                  go_wp2
                  go_meet
                  exact ⟨rfl, rfl⟩
                · by_cases h22 : x = 22
                  · subst h22
                    go_wp2
                    go_meet
                    exact ⟨rfl, rfl⟩
                  · have hs : Iso.st x = false := by unfold Iso.st; simp [h20, h21, h22]
                    have q1 : (x == 21) = false := beq_false_of_ne h21
                    have q2 : (x == 20) = false := beq_false_of_ne h20
                    have q3 : (x == 22) = false := beq_false_of_ne h22
                    have HS := hide hs
                    clear hs
                    go_wp2
                    go_meet
                    exact ⟨by rw [HS.out], rfl⟩
            obtain ⟨rfl, rfl⟩ := hcut
            cases hs : Iso.st x with
            | false =>
              have HPL := hide (show Ex.pl c (k + 1) = (Ex.pl c k && !(Ex.em x)) from by rw [hpl, hs]; simp)
              clear hpl HPR HCQ hmt HST
              go_wp2
              go_roundw
              case rel => exact ⟨k + 1, nq, by omega, by go_num, by rw [HPL.out], rfl⟩
              case measure => simp [intOf]; omega
            | true =>
              have HPL := hide (show Ex.pl c (k + 1) = false from by rw [hpl, hs]; simp)
              have hm := hmt hs
              subst hm
              obtain ⟨_, _, s1, s2⟩ := HST.out hs
              by_cases hq : q < n0
              · obtain ⟨e1, ov, e2, e3, e4⟩ := HPR.out hs hq
                rw [← e2] at hov
                obtain ⟨cql, cqt⟩ := HCQ.out q hq
                rw [e1] at cql
                rw [e4] at cqt
                rw [e3] at ct
                have hq2 : decide ((q : Int) < (n0 : Int)) = true := decide_eq_true (by omega)
                have hq3 : decide (q < n0) = true := decide_eq_true hq
                have hqI : (q : Int) < (n0 : Int) := by omega
                have d1 : (lv != lv) = false := by simp
                have hs3 : ¬ x = 23 := Iso.st_23 hs
                have s0 : ¬ x = 0 := by intro h; subst h; simp [Iso.st] at hs
                clear hpl HPR HCQ hmt HST hs e1 e2 e3 e4 HRL HRT HRM
                by_cases ho : ov = 0
                · rw [if_pos ho] at ct cqt
                  have d2 : (x == x) = true := by simp
                  have d3 : (x != x) = false := by simp
                  clear ho
                  go_wp2_with fail
                  go_quiet (fail)
                  go_wp2
                  go_roundw
                  case rel => exact ⟨k + 1, _, by omega, by go_num, by rw [HPL.out], by first | rfl | exact World.drewN_drewN _ _ _⟩
                  case measure => simp [intOf]; omega
                · rw [if_neg ho] at ct cqt
                  have d2 : (ov == x) = false := beq_false_of_ne (by omega)
                  have d3 : (ov != x) = true := bne_iff_ne.2 (by omega)
                  have d4 : (ov == 23) = false := beq_false_of_ne (by omega)
                  have d5 : (ov != ov) = false := by simp
                  clear ho
                  go_wp2_with fail
                  go_quiet (fail)
                  go_wp2
                  go_roundw
                  case rel => exact ⟨k + 1, _, by omega, by go_num, by rw [HPL.out], by first | rfl | exact World.drewN_drewN _ _ _⟩
                  case measure => simp [intOf]; omega
              · have hq2 : decide ((q : Int) < (n0 : Int)) = false := decide_eq_false (by omega)
                have hq3 : decide (q < n0) = false := decide_eq_false hq
                clear hpl HPR HCQ hmt HST hs HRL HRT HRM
                go_wp2_with fail
                go_quiet (fail)
                go_wp2
                go_roundw
                case rel => exact ⟨k + 1, _, by omega, by go_num, by rw [HPL.out], by first | rfl | exact World.drewN_drewN _ _ _⟩
                case measure => simp [intOf]; omega
          · obtain rfl : k = n0 := by omega
            have hne : ¬ ((k : Int) < (k : Int)) := by omega
            have HPLL := hide (fun (j : Nat) (hp : Ex.pl c k = true) (hj : j < k) => Ex.pl_lev (b := b) hp hj)
            generalize hP : Ex.pl c k = P at *
            clear hP
            cases P with
            | false =>
              clear HPLL HRL HRT HRM
              go_wp2_with fail
              go_loopw [13] (fun s13 wr => s13 = .int .i64 0 ∧ wr = W.drewN nq) (fun _ _ => 0)
              case atStart => exact ⟨rfl, rfl⟩
              case round =>
                obtain ⟨rfl, rfl⟩ := hrel
                rcases Nat.eq_zero_or_pos k with h0 | h0
                · subst h0
                  go_wp2
                  go_ret
                  exact ⟨rfl, HB.out.trans ((below_drewN _ _).mono HB.out.size)⟩
                · have h0' : (0 : Int) < (k : Int) := by omega
                  go_wp2
                  go_ret
                  exact ⟨rfl, HB.out.trans ((below_drewN _ _).mono HB.out.size)⟩
            | true =>
              go_wp2_with fail
              go_loopw [13] (fun s13 wr => ∃ j nr : Nat, j ≤ k ∧ s13 = .int .i64 (j : Int) ∧ wr = W.drewN nr) (fun s13 _ => k - (intOf s13).toNat)
              case atStart => exact ⟨0, nq, Nat.zero_le _, rfl, rfl⟩
              case round =>
                obtain ⟨j, nr, hj, rfl, rfl⟩ := hrel
                by_cases hjk : j < k
                · have hjl : j < c.length := by rw [HL.out]; exact hjk
                  obtain ⟨cb, off, rfl, hbl, hc⟩ := (H0.out.below HB.out).cells (by omega)
                  have ck : W.cell? ⟨cb, off + j, none⟩ = some (.int .i64 (c.getD j 0)) := hc j hjl
                  have cl : W.cell? ⟨bl, j, none⟩ = some (.int .i64 (Ex.lev b (Ex.s0 b) c j)) := by rw [← Ex.LV_at b c j hjl]; exact row_cell HRL.out hjk
                  have ct : W.cell? ⟨bt, j, none⟩ = some (.int .i64 (Ex.typ (Ex.s0 b) c j)) := by rw [← Ex.TY_at b c j hjl]; exact row_cell HRT.out hjk
                  obtain ⟨e1, e2⟩ := HPLL.out j trivial hjk
                  rw [e2] at ct
                  have hjI : (j : Int) < (k : Int) := by omega
                  generalize Ex.lev b (Ex.s0 b) c j = lv at *
                  generalize c.getD j 0 = x at *
                  have d2 : (x != x) = false := by simp
                  clear hc hjl e2
                  rcases e1 with rfl | rfl
                  · have d1 : (lv != lv) = false := by simp
                    go_wp2_with fail
                    go_quiet (fail)
                    go_wp2
                    go_roundw
                    case rel => exact ⟨j + 1, _, by omega, by go_num, by first | rfl | exact World.drewN_drewN _ _ _⟩
                    case measure => simp [intOf]; omega
                  · have d1 : ((-1 : Int) != b) = true := bne_iff_ne.2 (by omega)
                    go_wp2_with fail
                    go_quiet (fail)
                    go_wp2
                    go_roundw
                    case rel => exact ⟨j + 1, _, by omega, by go_num, by first | rfl | exact World.drewN_drewN _ _ _⟩
                    case measure => simp [intOf]; omega
                · obtain rfl : j = k := by omega
                  have hne2 : ¬ ((j : Int) < (j : Int)) := by omega
                  go_wp2
                  go_ret
                  exact ⟨rfl, HB.out.trans ((below_drewN _ _).mono HB.out.size)⟩
      · have HR := hide (fun w' (hk : KO w w') => resolve_form a0 n0 cap0 c b w' (h0.below hk) hs0 hb hF)
        clear h0 hf0 hs0 hF
        go_enter Try.func6, Try.ntmps6
        go_wp2_with (first
          | (go_at_call 9; refine HW.out.mono ?_; rintro e w1 ⟨rfl, hb1⟩)
          | (go_at_call 10; refine (HR.out _ hb1).mono ?_; rintro e w2 ⟨rfl, rfl⟩))
        go_ret
        exact ⟨rfl, hb1⟩
end Go.Proofs.Ythoganddhoklpaa
