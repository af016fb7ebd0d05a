/- ExplicitHides: what lies in an isolate changes nothing outside. -/
import Derived.Test.YthoganddhoklpaaHd
import Derived.Test.YthoganddhoklpaaTwo
namespace Go.Proofs.Ythoganddhoklpaa
open Go.RowKit
set_option linter.unusedVariables false
set_option maxHeartbeats 4000000
set_option maxRecDepth 100000
theorem row_tail {W : World} {b n : Nat} {zs : List Int} (h : Row .i64 W (some ⟨b, 0, none⟩) n n zs) {j m : Nat} (hj : n = j + m) (hm : 0 < m) : Row .i64 W (some ⟨b, j, none⟩) m m (zs.drop j) := by
  have h2 := h.drop (j := j) (by omega)
  have e : tl (some ⟨b, 0, none⟩) n j = some ⟨b, j, none⟩ := by
    unfold tl
    rw [if_neg (by omega)]
    simp only [Option.map_some, Option.some.injEq]
    unfold Addr.add
    split <;> simp_all
  rw [e, show n - j = m from by omega] at h2
  exact h2
theorem run_tail {P : Program} {t e : TypeId} {i : TypeInfo} (ht : P.underlying t = some (.slice e)) (hi : P.info? e = some i) (hc : P.cellsOf e = 1) (b n j m : Nat) (hj : n = j + m ∧ 0 < m) (w : World) :
    (Instr.slice t (.slice (some ⟨b, 0, none⟩) n n) (some (.int .i64 (j : Int))) none none).run P w = .ok (.slice (some ⟨b, j, none⟩) m m) w := by
  have h := run_from ht hi hc (some ⟨b, 0, none⟩) n n j (by omega) w
  have e : tl (some ⟨b, 0, none⟩) n j = some ⟨b, j, none⟩ := by
    unfold tl
    rw [if_neg (by omega)]
    simp only [Option.map_some, Option.some.injEq]
    unfold Addr.add
    split <;> simp_all
  rw [e, show n - j = m from by omega] at h
  exact h
theorem ExplicitHides_walk (w : World) (a0 : Option Addr) (n0 cap0 : Nat) (la : List Int) (h0 : Row .i64 w a0 n0 cap0 la) (hf0 : ∀ x ∈ la, (Lit.int .i64 x).wf = true) (hs0 : n0 * 8 ≤ 140737488351232)
    (a1 : Option Addr) (n1 cap1 : Nat) (l1 : List Int) (h1 : Row .i64 w a1 n1 cap1 l1) (hf1 : ∀ x ∈ l1, (Lit.int .i64 x).wf = true) (hs1 : n1 * 8 ≤ 140737488351232)
    (a2 : Option Addr) (n2 cap2 : Nat) (l2 : List Int) (h2 : Row .i64 w a2 n2 cap2 l2) (hf2 : ∀ x ∈ l2, (Lit.int .i64 x).wf = true) (hs2 : n2 * 8 ≤ 140737488351232)
    (a3 : Option Addr) (nb cap3 : Nat) (lb : List Int) (h3 : Row .i64 w a3 nb cap3 lb) (hf3 : ∀ x ∈ lb, (Lit.int .i64 x).wf = true) (hs3 : nb * 8 ≤ 140737488351232) :
    Calls Try.prog 8 #[.slice a0 n0 cap0, .slice a1 n1 cap1, .slice a2 n2 cap2, .slice a3 nb cap3] w fun e w' => e = .returned (.bool true) ∧ Below w.heap.size w w' := by
  have HW := hide (works7_any w)
  by_cases b0 : (500 : Int) < (n0 : Int)
  · clear h0 h1 h2 h3 hf0 hf1 hf2 hf3 hs0 hs1 hs2 hs3
    go_enter Try.func8, Try.ntmps8
    go_wp2_with (go_at_call 9; refine HW.out.mono ?_; rintro e w1 ⟨rfl, hb1⟩)
    go_ret
    exact ⟨rfl, hb1⟩
  by_cases b1 : (500 : Int) < (n1 : Int)
  · clear h0 h1 h2 h3 hf0 hf1 hf2 hf3 hs0 hs1 hs2 hs3
    go_enter Try.func8, Try.ntmps8
    go_wp2_with (go_at_call 9; refine HW.out.mono ?_; rintro e w1 ⟨rfl, hb1⟩)
    go_ret
    exact ⟨rfl, hb1⟩
  by_cases b2 : (500 : Int) < (n2 : Int)
  · clear h0 h1 h2 h3 hf0 hf1 hf2 hf3 hs0 hs1 hs2 hs3
    go_enter Try.func8, Try.ntmps8
    go_wp2_with (go_at_call 9; refine HW.out.mono ?_; rintro e w1 ⟨rfl, hb1⟩)
    go_ret
    exact ⟨rfl, hb1⟩
  by_cases b3 : (500 : Int) < (nb : Int)
  · clear h0 h1 h2 h3 hf0 hf1 hf2 hf3 hs0 hs1 hs2 hs3
    go_enter Try.func8, Try.ntmps8
    go_wp2_with (go_at_call 9; refine HW.out.mono ?_; rintro e w1 ⟨rfl, hb1⟩)
    go_ret
    exact ⟨rfl, hb1⟩
  have m0 : n0 ≤ 500 := by omega
  have m1 : n1 ≤ 500 := by omega
  have m2 : n2 ≤ 500 := by omega
  have m3 : nb ≤ 500 := by omega
  obtain ⟨ii, hii, hy0, hy1, hy2⟩ := info_parts infoInt
  have HII : Hid (Try.prog.info? 3 = some ii) := hii
  have HY0 := hide hy0
  have HY1 := hide hy1
  have HY2 := hide hy2
  have H0 := hide h0
  have H1 := hide h1
  have H2 := hide h2
  have H3 := hide h3
  have HL0 := hide h0.len
  have HL3 := hide h3.len
  clear h0 h1 h2 h3 hf0 hf1 hf2 hf3 hs0 hs1 hs2 hs3 hii hy0 hy1 hy2
  go_enter Try.func8, Try.ntmps8
  go_wp2_with fail
  refine HW.out.mono ?_
  rintro e w1 ⟨rfl, hb1⟩
  have k1 : KO w w1 := hb1
  have HC1 := hide (closed_any a1 n1 cap1 l1 w1 (H1.out.below k1) m1)
  clear hb1 HW
  go_wp2_with fail
  refine HC1.out.mono ?_
  rintro e w2 ⟨x1, p1, y1, rfl, hp1, r1, hb2⟩
  have k2 : KO w w2 := KO.on k1 hb2
  have HAR1 := hide (around_any a0 n0 cap0 la x1 p1 y1 (l1.filter Ex.ck) a3 nb cap3 lb w2 (H0.out.below k2) r1 (H3.out.below k2) m0 hp1 m3)
  obtain ⟨N1, hN1⟩ : ∃ N1, n0 + 1 + p1 + 1 + nb = N1 := ⟨_, rfl⟩
  obtain ⟨kk, hkk⟩ : ∃ kk, n0 + 1 = kk := ⟨_, rfl⟩
  rw [hN1, hkk] at HAR1
  have HLP1 := hide r1.len
  clear r1 hb2 HC1 k1
  go_wp2_with fail
  refine HAR1.out.mono ?_
  rintro e w3 ⟨x3, y3, rfl, r3, hb3⟩
  have k3 : KO w w3 := KO.on k2 hb3
  have HC2 := hide (closed_any a2 n2 cap2 l2 w3 (H2.out.below k3) m2)
  clear hb3 HAR1 k2
  go_wp2_with fail
  refine HC2.out.mono ?_
  rintro e w4 ⟨x4, p2, y4, rfl, hp2, r4, hb4⟩
  have k4 : KO w w4 := KO.on k3 hb4
  have HAR2 := hide (around_any a0 n0 cap0 la x4 p2 y4 (l2.filter Ex.ck) a3 nb cap3 lb w4 (H0.out.below k4) r4 (H3.out.below k4) m0 hp2 m3)
  obtain ⟨N2, hN2⟩ : ∃ N2, n0 + 1 + p2 + 1 + nb = N2 := ⟨_, rfl⟩
  rw [hN2, hkk] at HAR2
  have HLP2 := hide r4.len
  have q3 : KO w3 w4 := hb4
  clear r4 hb4 HC2 k3
  go_wp2_with fail
  refine HAR2.out.mono ?_
  rintro e w5 ⟨x5, y5, rfl, r5, hb5⟩
  have k5 : KO w w5 := KO.on k4 hb5
  have R3 := hide (r3.below (KO.on q3 hb5))
  have R5 := hide r5
  have HI1 := hide (Ex.cl_filter l1)
  have HI2 := hide (Ex.cl_filter l2)
  generalize l1.filter Ex.ck = f1 at *
  generalize l2.filter Ex.ck = f2 at *
  have HHL := hide (Ex.hides_lv la (b := lb) HI1.out HI2.out)
  have HHT := hide (Ex.hides_ty la (b := lb) HI1.out HI2.out)
  have HF12 := hide (Ex.formed_ar (a := la) (b := lb) HI1.out HI2.out)
  have HF21 := hide (Ex.formed_ar (a := la) (b := lb) HI2.out HI1.out)
  rw [HL0.out, HLP1.out, HLP2.out, hkk] at HHL HHT
  clear r3 r5 hb5 HAR2 k4 q3 HI1 HI2
  generalize hq1 : Ex.ar la f1 lb = q1 at *
  generalize hq2 : Ex.ar la f2 lb = q2 at *
  clear hq1 hq2
  obtain ⟨j1, hj1⟩ : ∃ j1, kk + p1 = j1 := ⟨_, rfl⟩
  obtain ⟨j2, hj2⟩ : ∃ j2, kk + p2 = j2 := ⟨_, rfl⟩
  rw [hj1, hj2] at HHL HHT
  have hN1b : N1 ≤ 2002 := by omega
  have hN2b : N2 ≤ 2002 := by omega
  have hkb : kk ≤ 501 := by omega
  have hkp : 0 < kk := by omega
  have hk1 : kk ≤ N1 := by omega
  have hk2 : kk ≤ N2 := by omega
  have HJN1 : Hid (N1 = j1 + (nb + 1)) := hide (by omega)
  have HJN2 : Hid (N2 = j2 + (nb + 1)) := hide (by omega)
  clear hj1 hj2 hN1 hN2 hkk hp1 hp2 HLP1 HLP2 HL0 HL3
  by_cases hF : Ex.Formed q1
  · have HR1 := hide (resolve_ok x3 N1 y3 q1 0 w5 R3.out (by omega) (.inl rfl) hF)
    have HR2 := hide (fun w' (hb : Below w5.heap.size w5 w') => resolve_ok x5 N2 y5 q2 0 w' (R5.out.below hb) (by omega) (.inl rfl) (HF12.out hF))
    clear hF HF12 HF21
    go_wp2_with fail
    refine HR1.out.mono ?_
    rintro e w6 ⟨bl1, bt1, rfl, rl1, rt1, hb6⟩
    have k6 : KO w w6 := KO.on k5 hb6
    have HR2' := hide (HR2.out w6 hb6)
    clear HR1 HR2 hb6 R3 R5
    go_wp2_with fail
    refine HR2'.out.mono ?_
    rintro e W ⟨bl2, bt2, rfl, rl2, rt2, hb7⟩
    have k7 : KO w W := KO.on k6 hb7
    have HL1 := hide (rl1.below hb7)
    have HT1 := hide (rt1.below hb7)
    have HL2 := hide rl2
    have HT2 := hide rt2
    have HK7 := hide k7
    have e1 : IntKind.i64.wrap (IntKind.i64.wrap ((N1 : Int) - (nb : Int)) - 1) = (j1 : Int) := by have := HJN1.out; rw [IntKind.wrap_i64, IntKind.wrap_i64]; omega
    have e2 : IntKind.i64.wrap (IntKind.i64.wrap ((N2 : Int) - (nb : Int)) - 1) = (j2 : Int) := by have := HJN2.out; rw [IntKind.wrap_i64, IntKind.wrap_i64]; omega
    clear rl1 rt1 rl2 rt2 hb7 HR2' k6 k7 k5
    go_upto_region 11 with fail
    have HP1 := hide (((HL1.out).take (e := kk) (by omega)))
    have HP2 := hide (row_tail HL1.out (j := j1) (m := nb + 1) HJN1.out (by omega))
    have HP3 := hide (((HL2.out).take (e := kk) (by omega)))
    have HP4 := hide (row_tail HL2.out (j := j2) (m := nb + 1) HJN2.out (by omega))
    have hs1 := fun w' => run_upto Try.underlying22 HII.out cellsInt (some ⟨bl1, 0, none⟩) N1 N1 kk (by omega) w'
    have hs2 := fun w' => run_tail Try.underlying22 HII.out cellsInt bl1 N1 j1 (nb + 1) ⟨HJN1.out, by omega⟩ w'
    have hs3 := fun w' => run_upto Try.underlying22 HII.out cellsInt (some ⟨bl2, 0, none⟩) N2 N2 kk (by omega) w'
    have hs4 := fun w' => run_tail Try.underlying22 HII.out cellsInt bl2 N2 j2 (nb + 1) ⟨HJN2.out, by omega⟩ w'
    go_cut [19, 20] from 80 to 107 (fun sa sb wx => ∃ ga ca gb cb : Nat, sa = .slice (some ⟨ga, 0, none⟩) (kk + (nb + 1)) ca ∧ sb = .slice (some ⟨gb, 0, none⟩) (kk + (nb + 1)) cb ∧ Row .i64 wx (some ⟨ga, 0, none⟩) (kk + (nb + 1)) ca ((Ex.LV 0 q1).take kk ++ (Ex.LV 0 q1).drop j1) ∧ Row .i64 wx (some ⟨gb, 0, none⟩) (kk + (nb + 1)) cb ((Ex.LV 0 q2).take kk ++ (Ex.LV 0 q2).drop j2) ∧ Below W.heap.size W wx)
    case first =>
      have hJ : J2 3 W W (.slice none 0 0) 0 [] (.slice none 0 0) 0 [] := J2.begin W
      go_region_law (first
        | (refine step_first (J2.below hJ (by first | exact Below.refl _ _ | exact (Below.refl _ _).drew | exact Below.alloc (Below.refl _ _) (Nat.le_refl _) _ | exact (Below.alloc (Below.refl _ _) (Nat.le_refl _) _).drew | exact Below.alloc (Below.alloc (Below.refl _ _) (Nat.le_refl _) _) (by simp) _ | exact (Below.alloc (Below.alloc (Below.refl _ _) (Nat.le_refl _) _) (by simp) _).drew)) rfl (.tmp 80) (.tmp 83) 22 rfl ii _ Try.underlying22 HII.out HY0.out HY1.out HY2.out rfl _ _ rfl kk N1 _ rfl HP1.out (by omega) (by omega) ?_; intro ga ca wa hJn; replace hJ := hJn; clear hJn)
        | (refine step_next (J2.below hJ (by first | exact Below.refl _ _ | exact (Below.refl _ _).drew | exact Below.alloc (Below.refl _ _) (Nat.le_refl _) _ | exact (Below.alloc (Below.refl _ _) (Nat.le_refl _) _).drew | exact Below.alloc (Below.alloc (Below.refl _ _) (Nat.le_refl _) _) (by simp) _ | exact (Below.alloc (Below.alloc (Below.refl _ _) (Nat.le_refl _) _) (by simp) _).drew)) rfl (.tmp 84) (.tmp 92) 22 rfl ii _ Try.underlying22 HII.out HY0.out HY1.out HY2.out rfl _ rfl (nb + 1) (nb + 1) _ rfl HP2.out (by omega) (by omega) ?_; intro ga ca wa hJn; replace hJ := hJn; clear hJn)
        | (refine step_first (J2.below hJ.symm (by first | exact Below.refl _ _ | exact (Below.refl _ _).drew | exact Below.alloc (Below.refl _ _) (Nat.le_refl _) _ | exact (Below.alloc (Below.refl _ _) (Nat.le_refl _) _).drew | exact Below.alloc (Below.alloc (Below.refl _ _) (Nat.le_refl _) _) (by simp) _ | exact (Below.alloc (Below.alloc (Below.refl _ _) (Nat.le_refl _) _) (by simp) _).drew)) rfl (.tmp 94) (.tmp 97) 22 rfl ii _ Try.underlying22 HII.out HY0.out HY1.out HY2.out rfl _ _ rfl kk N2 _ rfl HP3.out (by omega) (by omega) ?_; intro gb cb wb hJn; replace hJ := hJn.symm; clear hJn)
        | (refine step_next (J2.below hJ.symm (by first | exact Below.refl _ _ | exact (Below.refl _ _).drew | exact Below.alloc (Below.refl _ _) (Nat.le_refl _) _ | exact (Below.alloc (Below.refl _ _) (Nat.le_refl _) _).drew | exact Below.alloc (Below.alloc (Below.refl _ _) (Nat.le_refl _) _) (by simp) _ | exact (Below.alloc (Below.alloc (Below.refl _ _) (Nat.le_refl _) _) (by simp) _).drew)) rfl (.tmp 98) (.tmp 106) 22 rfl ii _ Try.underlying22 HII.out HY0.out HY1.out HY2.out rfl _ rfl (nb + 1) (nb + 1) _ rfl HP4.out (by omega) (by omega) ?_; intro gb cb wb hJn; replace hJ := hJn.symm; clear hJn))
      all_goals
        have HJ := hide hJ
        clear hJ
        go_wp2
        go_meet
        exact ⟨_, _, _, _, rfl, rfl, row_owned HJ.out.oa, row_owned HJ.out.ob, HJ.out.bel⟩
    clear HP1 HP2 HP3 HP4 hs1 hs2 hs3 hs4
    obtain ⟨ga, ca, gb, cb, rfl, rfl, ra, rb, hbx⟩ := hcut
    rw [← HHL.out] at rb
    have HRA := hide ra
    have HRB := hide rb
    have HT3 := hide (HT1.out.below hbx)
    have HT4 := hide (HT2.out.below hbx)
    have HK8 := hide (KO.on HK7.out hbx)
    clear ra rb hbx HT1 HT2 HL1 HL2 HK7
    generalize wc = W2 at *
    go_upto_region 12 with fail
    have HP1 := hide (((HT3.out).take (e := kk) (by omega)))
    have HP2 := hide (row_tail HT3.out (j := j1) (m := nb + 1) HJN1.out (by omega))
    have HP3 := hide (((HT4.out).take (e := kk) (by omega)))
    have HP4 := hide (row_tail HT4.out (j := j2) (m := nb + 1) HJN2.out (by omega))
    have hs1 := fun w' => run_upto Try.underlying22 HII.out cellsInt (some ⟨bt1, 0, none⟩) N1 N1 kk (by omega) w'
    have hs2 := fun w' => run_tail Try.underlying22 HII.out cellsInt bt1 N1 j1 (nb + 1) ⟨HJN1.out, by omega⟩ w'
    have hs3 := fun w' => run_upto Try.underlying22 HII.out cellsInt (some ⟨bt2, 0, none⟩) N2 N2 kk (by omega) w'
    have hs4 := fun w' => run_tail Try.underlying22 HII.out cellsInt bt2 N2 j2 (nb + 1) ⟨HJN2.out, by omega⟩ w'
    go_cut [21, 22] from 108 to 135 (fun sa sb wx => ∃ ga ca gb cb : Nat, sa = .slice (some ⟨ga, 0, none⟩) (kk + (nb + 1)) ca ∧ sb = .slice (some ⟨gb, 0, none⟩) (kk + (nb + 1)) cb ∧ Row .i64 wx (some ⟨ga, 0, none⟩) (kk + (nb + 1)) ca ((Ex.TY 0 q1).take kk ++ (Ex.TY 0 q1).drop j1) ∧ Row .i64 wx (some ⟨gb, 0, none⟩) (kk + (nb + 1)) cb ((Ex.TY 0 q2).take kk ++ (Ex.TY 0 q2).drop j2) ∧ Below W2.heap.size W2 wx)
    case first =>
      have hJ : J2 3 W2 W2 (.slice none 0 0) 0 [] (.slice none 0 0) 0 [] := J2.begin W2
      go_region_law (first
        | (refine step_first (J2.below hJ (by first | exact Below.refl _ _ | exact (Below.refl _ _).drew | exact Below.alloc (Below.refl _ _) (Nat.le_refl _) _ | exact (Below.alloc (Below.refl _ _) (Nat.le_refl _) _).drew | exact Below.alloc (Below.alloc (Below.refl _ _) (Nat.le_refl _) _) (by simp) _ | exact (Below.alloc (Below.alloc (Below.refl _ _) (Nat.le_refl _) _) (by simp) _).drew)) rfl (.tmp 108) (.tmp 111) 22 rfl ii _ Try.underlying22 HII.out HY0.out HY1.out HY2.out rfl _ _ rfl kk N1 _ rfl HP1.out (by omega) (by omega) ?_; intro ga ca wa hJn; replace hJ := hJn; clear hJn)
        | (refine step_next (J2.below hJ (by first | exact Below.refl _ _ | exact (Below.refl _ _).drew | exact Below.alloc (Below.refl _ _) (Nat.le_refl _) _ | exact (Below.alloc (Below.refl _ _) (Nat.le_refl _) _).drew | exact Below.alloc (Below.alloc (Below.refl _ _) (Nat.le_refl _) _) (by simp) _ | exact (Below.alloc (Below.alloc (Below.refl _ _) (Nat.le_refl _) _) (by simp) _).drew)) rfl (.tmp 112) (.tmp 120) 22 rfl ii _ Try.underlying22 HII.out HY0.out HY1.out HY2.out rfl _ rfl (nb + 1) (nb + 1) _ rfl HP2.out (by omega) (by omega) ?_; intro ga ca wa hJn; replace hJ := hJn; clear hJn)
        | (refine step_first (J2.below hJ.symm (by first | exact Below.refl _ _ | exact (Below.refl _ _).drew | exact Below.alloc (Below.refl _ _) (Nat.le_refl _) _ | exact (Below.alloc (Below.refl _ _) (Nat.le_refl _) _).drew | exact Below.alloc (Below.alloc (Below.refl _ _) (Nat.le_refl _) _) (by simp) _ | exact (Below.alloc (Below.alloc (Below.refl _ _) (Nat.le_refl _) _) (by simp) _).drew)) rfl (.tmp 122) (.tmp 125) 22 rfl ii _ Try.underlying22 HII.out HY0.out HY1.out HY2.out rfl _ _ rfl kk N2 _ rfl HP3.out (by omega) (by omega) ?_; intro gb cb wb hJn; replace hJ := hJn.symm; clear hJn)
        | (refine step_next (J2.below hJ.symm (by first | exact Below.refl _ _ | exact (Below.refl _ _).drew | exact Below.alloc (Below.refl _ _) (Nat.le_refl _) _ | exact (Below.alloc (Below.refl _ _) (Nat.le_refl _) _).drew | exact Below.alloc (Below.alloc (Below.refl _ _) (Nat.le_refl _) _) (by simp) _ | exact (Below.alloc (Below.alloc (Below.refl _ _) (Nat.le_refl _) _) (by simp) _).drew)) rfl (.tmp 126) (.tmp 134) 22 rfl ii _ Try.underlying22 HII.out HY0.out HY1.out HY2.out rfl _ rfl (nb + 1) (nb + 1) _ rfl HP4.out (by omega) (by omega) ?_; intro gb cb wb hJn; replace hJ := hJn.symm; clear hJn))
      all_goals
        have HJ := hide hJ
        clear hJ
        go_wp2
        go_meet
        exact ⟨_, _, _, _, rfl, rfl, row_owned HJ.out.oa, row_owned HJ.out.ob, HJ.out.bel⟩
    clear HP1 HP2 HP3 HP4 hs1 hs2 hs3 hs4
    obtain ⟨gc, cc, gd, cd, rfl, rfl, rc, rd, hby⟩ := hcut
    rw [← HHT.out] at rd
    generalize hW3 : wc = W3 at *
    have HIA := hide (ints_yes _ _ _ _ _ _ W3 (HRA.out.below hby) (HRB.out.below hby))
    have HIB := hide (fun w' (hb : Below W3.heap.size W3 w') => ints_yes _ _ _ _ _ _ w' (rc.below hb) (rd.below hb))
    have k9 : KO w W3 := KO.on HK8.out hby
    clear rc rd hby HRA HRB HT3 HT4 HK8 e1 e2
    go_wp2_with fail
    refine HIA.out.mono ?_
    rintro e w9 ⟨rfl, hd9⟩
    have hb9 := below_of_drewN hd9
    have HIB' := hide (HIB.out w9 hb9)
    have k10 : KO w w9 := KO.on k9 hb9
    clear hd9 hb9 HIA HIB
    go_wp2_with fail
    refine HIB'.out.mono ?_
    rintro e w10 ⟨rfl, hd10⟩
    have k11 : KO w w10 := KO.on k10 (below_of_drewN hd10)
    clear hd10 HIB'
    go_wp2_with fail
    go_ret
    exact ⟨rfl, k11⟩
  · have HR1 := hide (resolve_form x3 N1 y3 q1 0 w5 R3.out (by omega) (.inl rfl) hF)
    have HR2 := hide (resolve_form x5 N2 y5 q2 0 w5 R5.out (by omega) (.inl rfl) (fun h => hF (HF21.out h)))
    clear hF HF12 HF21
    go_wp2_with fail
    refine HR1.out.mono ?_
    rintro e w6 ⟨rfl, rfl⟩
    go_wp2_with fail
    refine HR2.out.mono ?_
    rintro e w6 ⟨rfl, rfl⟩
    go_wp2_with fail
    go_ret
    exact ⟨rfl, k5⟩
end Go.Proofs.Ythoganddhoklpaa
