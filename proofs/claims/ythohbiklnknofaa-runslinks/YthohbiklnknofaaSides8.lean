/- RunsSides: what stands ahead of and behind sequences. -/
import Derived.Test.YthohbiklnknofaaWorks8
import Derived.Test.YthohbiklnknofaaSidm
namespace Go.Proofs.Ythohbiklnknofaa
open Go.RowKit Go.Maps
set_option linter.unusedVariables false
set_option maxHeartbeats 1000000
set_option maxRecDepth 100000
theorem base_two (b : Int) : (¬ b = 0 ∧ ¬ b = 1) ∨ (b = 0 ∨ b = 1) := by omega
/-- What a class is, to a plain paragraph. -/
theorem plain_step {c : List Int} (hF : Ex.Formed c) {k : Nat} (hk : k < c.length) : Ex.pl c (k + 1) = (Ex.pl c k && (decide (c.getD k 0 < 15) || c.getD k 0 == 19 || c.getD k 0 == 23)) := by
  obtain ⟨h1, h2, _⟩ := hF k hk
  rw [Ex.pl]
  generalize c.getD k 0 = x at *
  have : (!(Ex.em x) && !(Iso.st x)) = (decide (x < 15) || x == 19 || x == 23) := by
    have h3 : x = 1 ∨ x = 2 ∨ x = 3 ∨ x = 4 ∨ x = 5 ∨ x = 6 ∨ x = 7 ∨ x = 8 ∨ x = 9 ∨ x = 10 ∨ x = 11 ∨ x = 12 ∨ x = 13 ∨ x = 14 ∨ x = 15 ∨ x = 16 ∨ x = 17 ∨ x = 18 ∨ x = 19 ∨ x = 20 ∨ x = 21 ∨ x = 22 ∨ x = 23 := by omega
    rcases h3 with rfl | rfl | rfl | rfl | rfl | rfl | rfl | rfl | rfl | rfl | rfl | rfl | rfl | rfl | rfl | rfl | rfl | rfl | rfl | rfl | rfl | rfl | rfl <;> decide
  rw [Bool.and_assoc, this]
theorem RunsSides_walk (w : World) (a0 : Option Addr) (n0 cap0 : Nat) (c : List Int) (h0 : Row .i64 w a0 n0 cap0 c) (hf0 : ∀ x ∈ c, (Lit.int .i64 x).wf = true) (hs0 : n0 * 8 ≤ 140737488351232) (b : Int) (hwb : (Lit.int .i64 b).wf = true) :
    Calls Try.prog 7 #[.slice a0 n0 cap0, .int .i64 b] w fun e w' => e = .returned (.bool true) ∧ Below w.heap.size w w' := by
  have HW := hide (works8_any w)
  have H0 := hide h0
  by_cases hbig : 2000 < (n0 : Int)
  · clear h0 hf0 hs0
    go_enter Try.func7, Try.ntmps7
    go_wp2_with (go_at_call 9; refine HW.out.mono ?_; rintro e w1 ⟨rfl, hb1⟩)
    go_ret
    exact ⟨rfl, hb1⟩
  · rcases base_two b with hb | hb
    · have HR := hide (fun w' => sequences_arg a0 n0 cap0 b w' hb)
      clear h0 hf0 hs0
      go_enter Try.func7, Try.ntmps7
      go_wp2_with (first
        | (go_at_call 9; refine HW.out.mono ?_; rintro e w1 ⟨rfl, hb1⟩)
        | (go_at_call 14; refine (HR.out _).mono ?_; rintro e w2 ⟨rfl, rfl⟩))
      go_ret
      exact ⟨rfl, hb1⟩
    · by_cases hF : Ex.Formed c
      · have hn2 : n0 ≤ 2000 := by omega
        have HR := hide (fun w' (hk : KO w w') => sequences_ok a0 n0 cap0 c b w' (h0.below hk) hn2 hb hF)
        have HL := hide h0.len
        have HPL := hide (fun (hp : Ex.pl c c.length = true) => Rn.plain hb hF hp)
        have HSD := hide (fun j hj => Rn.sq_side hb (c := c) (j := j) hj)
        have HPS := hide (fun k hk => plain_step hF (k := k) hk)
        have hb01 : 0 ≤ b ∧ b ≤ 1 := by omega
        have hNl : (Rn.sqs b (Ex.LV b c) (Iso.MT c) (Rn.RS (Ex.LV b c)) (Rn.RS (Ex.LV b c)).length).length ≤ 2000 := by
          have h1 := Rn.sqs_len b (Ex.LV b c) (Iso.MT c) (Rn.RS (Ex.LV b c)) (Rn.RS (Ex.LV b c)).length
          have h2 := Rn.R_len (Ex.LV b c) (Ex.LV b c).length
          rw [Ex.LV_len] at h2
          have h3 : (Rn.RS (Ex.LV b c)).length ≤ c.length := by unfold Rn.RS; rw [Ex.LV_len]; exact h2
          have h4 := h0.len
          omega
        generalize Rn.sqs b (Ex.LV b c) (Iso.MT c) (Rn.RS (Ex.LV b c)) (Rn.RS (Ex.LV b c)).length = ss at *
        rw [h0.len] at HPL
        clear h0 hf0 hs0 hF hwb hb
        go_enter Try.func7, Try.ntmps7
        go_wp2_with fail
        refine HW.out.mono ?_
        rintro e w1 ⟨rfl, hb1⟩
        have HB1 := hide hb1
        clear hb1
        go_wp2_with fail
        refine (HR.out w1 HB1.out).mono ?_
        rintro e W ⟨sa, cs, rfl, sl, hb2⟩
        have HSL := hide sl
        have HB := hide (HB1.out.trans (hb2.mono HB1.out.size))
        clear sl hb2 HB1 HR HW
        go_wp2_with fail
        go_loopw [7, 8, 31] (fun s7 s8 s31 wr => ∃ k : Nat, k ≤ n0 ∧ s31 = .int .i64 (k : Int) ∧ s7 = .bool (Ex.pl c k) ∧ s8 = .int .i64 (Rn.kc c k : Int) ∧ W = wr) (fun _ _ s31 _ => n0 - (intOf s31).toNat)
        case atStart => exact ⟨0, Nat.zero_le _, rfl, rfl, rfl, rfl⟩
        case round =>
          obtain ⟨k, hk, rfl, rfl, rfl, rfl⟩ := hrel
          have hkc := Rn.kc_le c k
          by_cases hlt : k < n0
          · have hkl : k < c.length := by rw [HL.out]; exact hlt
            obtain ⟨cb, off, rfl, hbl, hc⟩ := (H0.out.below HB.out).cells (by omega)
            have ck := hc k hkl
            have hin : (k : Int) < (n0 : Int) := by omega
            have HRE := hide (removed_any (c.getD k 0) W)
            have HK := hide (Rn.kc_succ c k)
            have HP := hide (HPS.out k hkl)
            generalize Ex.pl c k = P at *
            generalize c.getD k 0 = x at *
            clear hc hkl
            generalize Rn.kc c k = m at *
            have hm2 : (m : Int) ≤ 2000 := by omega
            have hcase : (P = false) ∨ (P = true ∧ x < 15) ∨ (P = true ∧ ¬ x < 15 ∧ x = 19) ∨ (P = true ∧ ¬ x < 15 ∧ ¬ x = 19 ∧ x = 23) ∨ (P = true ∧ ¬ x < 15 ∧ ¬ x = 19 ∧ ¬ x = 23) := by
              cases P
              · exact .inl rfl
              · simp only [true_and, Bool.true_eq_false, false_or]; omega
            cases hr : Ex.rm x with
            | true =>
              have HE : Hid (Rn.kc c (k + 1) = m) := by have := HK.out; rw [hr] at this; exact this
              rw [hr] at HRE
              clear HK hr
              rcases hcase with rfl | ⟨rfl, h1⟩ | ⟨rfl, h1, rfl⟩ | ⟨rfl, h1, h2, rfl⟩ | ⟨rfl, h1, h2, h3⟩
              · have HP1 := hide (show Ex.pl c (k + 1) = false from by rw [HP.out, Bool.false_and])
                clear HP
                go_wp2_with (go_at_call 19; refine HRE.out.mono ?_; rintro e w2 ⟨rfl, rfl⟩)
                go_roundw
                case rel => exact ⟨k + 1, by omega, by go_num, by rw [HP1.out], by rw [HE.out], trivial⟩
                case measure => simp [intOf]; omega
              · have HP1 := hide (show Ex.pl c (k + 1) = true from by rw [HP.out, decide_eq_true h1]; rfl)
                clear HP
                go_wp2_with (go_at_call 19; refine HRE.out.mono ?_; rintro e w2 ⟨rfl, rfl⟩)
                go_roundw
                case rel => exact ⟨k + 1, by omega, by go_num, by rw [HP1.out], by rw [HE.out], trivial⟩
                case measure => simp [intOf]; omega
              · have HP1 := hide (show Ex.pl c (k + 1) = true from by rw [HP.out]; decide)
                clear HP
                go_wp2_with (go_at_call 19; refine HRE.out.mono ?_; rintro e w2 ⟨rfl, rfl⟩)
                go_roundw
                case rel => exact ⟨k + 1, by omega, by go_num, by rw [HP1.out], by rw [HE.out], trivial⟩
                case measure => simp [intOf]; omega
              · have HP1 := hide (show Ex.pl c (k + 1) = true from by rw [HP.out]; decide)
                clear HP
                go_wp2_with (go_at_call 19; refine HRE.out.mono ?_; rintro e w2 ⟨rfl, rfl⟩)
                go_roundw
                case rel => exact ⟨k + 1, by omega, by go_num, by rw [HP1.out], by rw [HE.out], trivial⟩
                case measure => simp [intOf]; omega
              · have HP1 := hide (show Ex.pl c (k + 1) = false from by rw [HP.out, decide_eq_false h1, beq_false_of_ne h2, beq_false_of_ne h3]; rfl)
                have q2 : (x == 19) = false := beq_false_of_ne h2
                have q3 : (x == 23) = false := beq_false_of_ne h3
                clear HP
                go_wp2_with (go_at_call 19; refine HRE.out.mono ?_; rintro e w2 ⟨rfl, rfl⟩)
                go_roundw
                case rel => exact ⟨k + 1, by omega, by go_num, by rw [HP1.out], by rw [HE.out], trivial⟩
                case measure => simp [intOf]; omega
            | false =>
              have HE : Hid (Rn.kc c (k + 1) = m + 1) := by have := HK.out; rw [hr] at this; exact this
              rw [hr] at HRE
              clear HK hr
              rcases hcase with rfl | ⟨rfl, h1⟩ | ⟨rfl, h1, rfl⟩ | ⟨rfl, h1, h2, rfl⟩ | ⟨rfl, h1, h2, h3⟩
              · have HP1 := hide (show Ex.pl c (k + 1) = false from by rw [HP.out, Bool.false_and])
                clear HP
                go_wp2_with (go_at_call 19; refine HRE.out.mono ?_; rintro e w2 ⟨rfl, rfl⟩)
                go_roundw
                case rel => exact ⟨k + 1, by omega, by go_num, by rw [HP1.out], by rw [HE.out]; go_num, trivial⟩
                case measure => simp [intOf]; omega
              · have HP1 := hide (show Ex.pl c (k + 1) = true from by rw [HP.out, decide_eq_true h1]; rfl)
                clear HP
                go_wp2_with (go_at_call 19; refine HRE.out.mono ?_; rintro e w2 ⟨rfl, rfl⟩)
                go_roundw
                case rel => exact ⟨k + 1, by omega, by go_num, by rw [HP1.out], by rw [HE.out]; go_num, trivial⟩
                case measure => simp [intOf]; omega
              · have HP1 := hide (show Ex.pl c (k + 1) = true from by rw [HP.out]; decide)
                clear HP
                go_wp2_with (go_at_call 19; refine HRE.out.mono ?_; rintro e w2 ⟨rfl, rfl⟩)
                go_roundw
                case rel => exact ⟨k + 1, by omega, by go_num, by rw [HP1.out], by rw [HE.out]; go_num, trivial⟩
                case measure => simp [intOf]; omega
              · have HP1 := hide (show Ex.pl c (k + 1) = true from by rw [HP.out]; decide)
                clear HP
                go_wp2_with (go_at_call 19; refine HRE.out.mono ?_; rintro e w2 ⟨rfl, rfl⟩)
                go_roundw
                case rel => exact ⟨k + 1, by omega, by go_num, by rw [HP1.out], by rw [HE.out]; go_num, trivial⟩
                case measure => simp [intOf]; omega
              · have HP1 := hide (show Ex.pl c (k + 1) = false from by rw [HP.out, decide_eq_false h1, beq_false_of_ne h2, beq_false_of_ne h3]; rfl)
                have q2 : (x == 19) = false := beq_false_of_ne h2
                have q3 : (x == 23) = false := beq_false_of_ne h3
                clear HP
                go_wp2_with (go_at_call 19; refine HRE.out.mono ?_; rintro e w2 ⟨rfl, rfl⟩)
                go_roundw
                case rel => exact ⟨k + 1, by omega, by go_num, by rw [HP1.out], by rw [HE.out]; go_num, trivial⟩
                case measure => simp [intOf]; omega
          · obtain rfl : k = n0 := by omega
            have hne : ¬ ((k : Int) < (k : Int)) := by omega
            have HPLk := hide HPL.out
            generalize Ex.pl c k = P at *
            generalize Rn.kc c k = m at *
            have hm2 : (m : Int) ≤ 2000 := by omega
            clear HPL HPS HL hlt
            generalize hLL : ss.length = L at *
            have HLE := hide hLL
            clear hLL
            go_wp2
            go_loopw [56] (fun s56 wr => ∃ j : Nat, j ≤ L ∧ s56 = .int .i64 (j : Int) ∧ Hid (Below W.heap.size W wr)) (fun s56 _ => L - (intOf s56).toNat)
            case atStart => exact ⟨0, Nat.zero_le _, rfl, hide (Below.refl _ _)⟩
            case round =>
              obtain ⟨j, hj, rfl, hbw⟩ := hrel
              have HBW := hide hbw.out
              clear hbw
              by_cases hjl : j < L
              · obtain ⟨s, hse, hs1, hs2, hs3⟩ := HSD.out j hjl
                obtain ⟨g, gj, cj, rfl, hgl, d0, d1, d2, d3, _⟩ := (HSL.out.below HBW.out).at' j hjl
                rw [hse] at d0 d1 d2 d3
                have hin : (j : Int) < (L : Int) := by omega
                obtain ⟨ps, lv, so, eo⟩ := s
                simp only at hs1 hs2 hs3 d0 d1 d2 d3
                have g3 : ¬ lv < b := by omega
                generalize ps.length = pl at *
                clear hse HSD HPLk
                rcases hs1 with rfl | rfl
                · rcases hs2 with rfl | rfl
                  · go_wp2
                    exact ⟨⟨j + 1, by omega, by go_num, hide (HBW.out.alloc HBW.out.size _)⟩, by simp [intOf]; omega⟩
                  · go_wp2
                    exact ⟨⟨j + 1, by omega, by go_num, hide (HBW.out.alloc HBW.out.size _)⟩, by simp [intOf]; omega⟩
                · rcases hs2 with rfl | rfl
                  · go_wp2
                    exact ⟨⟨j + 1, by omega, by go_num, hide (HBW.out.alloc HBW.out.size _)⟩, by simp [intOf]; omega⟩
                  · go_wp2
                    exact ⟨⟨j + 1, by omega, by go_num, hide (HBW.out.alloc HBW.out.size _)⟩, by simp [intOf]; omega⟩
              · obtain rfl : j = L := by omega
                have hne2 : ¬ ((j : Int) < (j : Int)) := by omega
                have HBE := hide (show Below w.heap.size w wr from KO.on HB.out HBW.out)
                cases P with
                | false =>
                  clear HPLk
                  go_wp2
                  go_ret
                  exact ⟨rfl, HBE.out⟩
                | true =>
                  rcases HPLk.out rfl with ⟨e1, e2⟩ | ⟨e1, ps, e2, e3⟩
                  · subst e1
                    have e4 := HLE.out
                    rw [e2] at e4
                    simp only [List.length_nil] at e4
                    subst e4
                    clear HPLk HLE
                    go_wp2
                    go_ret
                    exact ⟨rfl, HBE.out⟩
                  · have e4 := HLE.out
                    rw [e2] at e4
                    simp only [List.length_cons, List.length_nil, Nat.zero_add] at e4
                    subst e4
                    obtain ⟨g, gj, cj, rfl, hgl, d0, d1, d2, d3, _⟩ := (HSL.out.below HBW.out).at' 0 (by omega)
                    rw [e2] at d0 d1 d2 d3
                    have x0 : wr.cell? ⟨g, 0, none⟩ = some (.slice (some ⟨gj, 0, none⟩) m cj) := by rw [← e3]; exact d0
                    have x1 : wr.cell? ⟨g, 1, none⟩ = some (.int .i64 b) := d1
                    have x2 : wr.cell? ⟨g, 2, none⟩ = some (.int .i64 (1 + b)) := d2
                    have x3 : wr.cell? ⟨g, 3, none⟩ = some (.int .i64 (1 + b)) := d3
                    have hm0 : ((m : Int) == 0) = false := beq_false_of_ne (by omega)
                    clear HPLk HLE d0 d1 d2 d3 e2 e3 HSD
                    go_wp2
                    go_ret
                    exact ⟨ret_bool (by simp), HBE.out⟩
      · have HR := hide (fun w' (hk : KO w w') => sequences_form a0 n0 cap0 c b w' (h0.below hk) hs0 hb hF)
        clear h0 hf0 hs0 hF
        go_enter Try.func7, Try.ntmps7
        go_wp2_with (first
          | (go_at_call 9; refine HW.out.mono ?_; rintro e w1 ⟨rfl, hb1⟩)
          | (go_at_call 14; refine (HR.out _ hb1).mono ?_; rintro e w2 ⟨rfl, rfl⟩))
        go_ret
        exact ⟨rfl, hb1⟩
end Go.Proofs.Ythohbiklnknofaa
