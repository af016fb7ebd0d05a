/- RunsLinks: where a sequence leaves out kept places. -/
import Derived.Test.YthohbiklnknofaaSides8
import Derived.Test.YthohbiklnknofaaLinkm
import Derived.Deep.Cut
namespace Go.Proofs.Ythohbiklnknofaa
open Go.RowKit Go.Maps
set_option linter.unusedVariables false
set_option maxHeartbeats 2000000
set_option maxRecDepth 100000
theorem starts8_any (x : Int) (w : World) : Calls Try.prog 18 #[.int .i64 x] w fun e w' => e = .returned (.bool (Iso.st x)) ∧ w = w' := by
  rcases st_cases x with ⟨hs, h | ⟨h1, h⟩ | ⟨h1, h2, h⟩⟩ | ⟨hs, h1, h2, h3⟩
  all_goals
    rw [hs]
    clear hs
    go_enter Try.func18, Try.ntmps18
    go_wp2
    go_ret
    first
      | exact ⟨rfl, rfl⟩
      | exact ⟨ret_bool (by simp [*]), rfl⟩
theorem RunsLinks_walk (w : World) (a0 : Option Addr) (n0 cap0 : Nat) (c : List Int) (h0 : Row .i64 w a0 n0 cap0 c) (hf0 : ∀ x ∈ c, (Lit.int .i64 x).wf = true) (hs0 : n0 * 8 ≤ 140737488351232) (b : Int) (hwb : (Lit.int .i64 b).wf = true) :
    Calls Try.prog 6 #[.slice a0 n0 cap0, .int .i64 b] w fun e w' => e = .returned (.bool true) ∧ Below w.heap.size w w' := by
  have HW := hide (works8_any w)
  have H0 := hide h0
  by_cases hbig : 2000 < (n0 : Int)
  · clear h0 hf0 hs0
    go_enter Try.func6, Try.ntmps6
    go_wp2_with (go_at_call 9; refine HW.out.mono ?_; rintro e w1 ⟨rfl, hb1⟩)
    go_ret
    exact ⟨rfl, hb1⟩
  · rcases base_two b with hb | hb
    · have HR := hide (fun w' => sequences_arg a0 n0 cap0 b w' hb)
      clear h0 hf0 hs0
      go_enter Try.func6, Try.ntmps6
      go_wp2_with (first
        | (go_at_call 9; refine HW.out.mono ?_; rintro e w1 ⟨rfl, hb1⟩)
        | (go_at_call 14; refine (HR.out _).mono ?_; rintro e w2 ⟨rfl, rfl⟩))
      go_ret
      exact ⟨rfl, hb1⟩
    · by_cases hF : Ex.Formed c
      · have hn2 : n0 ≤ 2000 := by omega
        have hlen := h0.len
        have HR := hide (fun w' (hk : KO w w') => sequences_ok a0 n0 cap0 c b w' (h0.below hk) hn2 hb hF)
        have HQ := hide (fun w' (hk : KO w w') => resolve_ok a0 n0 cap0 c b w' (h0.below hk) hs0 hb hF)
        have HMA := hide (fun w' (hk : KO w w') => match_any a0 n0 cap0 c w' (h0.below hk) hs0)
        have HLV := hide (fun i (hi : i < n0) => (show (Ex.LV b c).getD i 0 < 0 ↔ Rn.kp (Ex.LV b c) i = false from by unfold Rn.kp; simp))
        have HMT := hide (fun i (hi : i < n0) => (show (Iso.MT c).getD i 0 = Iso.mt c i from Iso.MT_at c i (by rw [hlen]; exact hi)))
        have HMEM := hide (fun j (hj : j < (Rn.sqs b (Ex.LV b c) (Iso.MT c) (Rn.RS (Ex.LV b c)) (Rn.RS (Ex.LV b c)).length).length) => (show ∃ s, (Rn.sqs b (Ex.LV b c) (Iso.MT c) (Rn.RS (Ex.LV b c)) (Rn.RS (Ex.LV b c)).length).getD j default = s ∧ (∀ i, i < s.places.length → s.places.getD i 0 < n0) ∧ (∀ i, i + 1 < s.places.length → s.places.getD i 0 < s.places.getD (i + 1) 0) ∧ Rn.Lk (Rn.LR b c) s.places ∧ 0 < s.places.length ∧ (c.getD (s.places.getD 0 0) 0 = 23 → Iso.mt c (s.places.getD 0 0) < 0) ∧ (Iso.st (c.getD (s.places.getD (s.places.length - 1) 0) 0) = true → Iso.mt c (s.places.getD (s.places.length - 1) 0) = (n0 : Int)) from by
          obtain ⟨k, h1, h2, h3⟩ := Rn.sqs_mem hj
          refine ⟨_, rfl, ?_⟩
          rw [h3, ← hlen]
          obtain ⟨q1, q2⟩ := Rn.sq_places hb hF h1
          refine ⟨fun i hi => (q2 _ (Rn.getD_mem hi)).1, fun i hi => ?_, Rn.sq_links hb hF h1 h2⟩
          have := (List.pairwise_iff_getElem.1 q1) i (i + 1) (by omega) hi (by omega)
          simpa [List.getD, hi, show i < (Rn.sq b (Ex.LV b c) (Iso.MT c) (Rn.RS (Ex.LV b c)) k).places.length by omega] using this))
        have hNl : (Rn.sqs b (Ex.LV b c) (Iso.MT c) (Rn.RS (Ex.LV b c)) (Rn.RS (Ex.LV b c)).length).length ≤ 2000 := by
          have h1 := Rn.sqs_len b (Ex.LV b c) (Iso.MT c) (Rn.RS (Ex.LV b c)) (Rn.RS (Ex.LV b c)).length
          have h2 := Rn.R_len (Ex.LV b c) (Ex.LV b c).length
          rw [Ex.LV_len] at h2
          have h3 : (Rn.RS (Ex.LV b c)).length ≤ c.length := by unfold Rn.RS; rw [Ex.LV_len]; exact h2
          omega
        generalize Rn.sqs b (Ex.LV b c) (Iso.MT c) (Rn.RS (Ex.LV b c)) (Rn.RS (Ex.LV b c)).length = ss at *
        have HST := hide (fun x w' => starts8_any x w')
        clear h0 hf0 hs0 hF hwb hb hlen
        go_enter Try.func6, Try.ntmps6
        go_wp2_with fail
        refine HW.out.mono ?_
        rintro e w1 ⟨rfl, hb1⟩
        have HB1 := hide hb1
        clear hb1
        go_wp2_with fail
        refine (HR.out w1 HB1.out).mono ?_
        rintro e w2 ⟨sa, cs, rfl, sl, hb2⟩
        have HSL2 := hide sl
        have HB2 := hide (show KO w w2 from KO.on HB1.out hb2)
        clear sl hb2 HB1 HR HW
        go_wp2_with fail
        refine (HQ.out w2 HB2.out).mono ?_
        rintro e w3 ⟨bl, bt, rfl, rl, _, hb3⟩
        have HB3 := hide (show KO w w3 from KO.on HB2.out hb3)
        have HRL3 := hide rl
        have HSL3 := hide (HSL2.out.below hb3)
        clear hb3 rl HB2 HQ HSL2
        go_wp2_with fail
        refine (HMA.out w3 HB3.out).mono ?_
        rintro e W ⟨rfl, hom, hb4⟩
        have HSL := hide (HSL3.out.below hb4)
        have HRL := hide (HRL3.out.below hb4)
        have HRM := hide (row_owned hom)
        have HB := hide (KO.on HB3.out hb4)
        generalize w3.heap.size = bm at *
        clear hb4 hom HB3 HRL3 HSL3 HMA
        generalize hLL : ss.length = L at *
        have HLE := hide hLL
        clear hLL
        go_wp2
        go_loopw [46] (fun s46 wr => ∃ j : Nat, j ≤ L ∧ s46 = .int .i64 (j : Int) ∧ Hid (Below W.heap.size W wr)) (fun s46 _ => L - (intOf s46).toNat)
        case atStart => exact ⟨0, Nat.zero_le _, rfl, hide (Below.refl _ _)⟩
        case round =>
          obtain ⟨j, hj, rfl, hbw⟩ := hrel
          by_cases hjl : j < L
          · obtain ⟨s, hse, hp1, hp2, hp3, hp4, hp5, hp6⟩ := HMEM.out j hjl
            obtain ⟨g, gj, cj, rfl, hgl, d0, d1, d2, d3, hrow⟩ := (HSL.out.below hbw.out).at' j hjl
            rw [hse] at d0 d1 d2 d3 hrow
            obtain ⟨ps, lx, so, eo⟩ := s
            simp only at d0 d1 d2 d3 hrow hp1 hp2 hp3 hp4 hp5 hp6
            have hin : (j : Int) < (L : Int) := by omega
            obtain ⟨m, hm⟩ : ∃ m, ps.length = m + 1 := ⟨ps.length - 1, by omega⟩
            rw [hm] at d0 hrow hp1 hp2 hp6
            rw [Nat.add_sub_cancel] at hp6
            have HM := hide hm
            have hmn : m + 1 ≤ cj := hrow.le
            have hmx : cj ≤ 9223372036854775807 := hrow.max
            obtain ⟨X, hX⟩ : ∃ X, wr.alloc (.cells #[.slice (some ⟨gj, 0, none⟩) (m + 1) cj, .int .i64 lx, .int .i64 so, .int .i64 eo] 36) = X := ⟨_, rfl⟩
            have hXn : X.heap[wr.heap.size]? = some (.cells #[.slice (some ⟨gj, 0, none⟩) (m + 1) cj, .int .i64 lx, .int .i64 so, .int .i64 eo] 36 (0, 0)) := by rw [← hX]; exact heap_alloc_new _ _
            have hbx : Below wr.heap.size wr X := by rw [← hX]; exact (Below.refl _ _).alloc (Nat.le_refl _) _
            have x0 : X.cell? ⟨wr.heap.size, 0, none⟩ = some (.slice (some ⟨gj, 0, none⟩) (m + 1) cj) := by simp [World.cell?, hXn]
            have HBX := hide (show KO W X from KO.on hbw.out hbx)
            have HROW := hide (hrow.below hbx)
            generalize hxe : wr.heap.size = xb at *
            have r0 := row_at HROW.out (show 0 < m + 1 by omega)
            have rm := row_at HROW.out (show m < m + 1 by omega)
            rw [Rn.zs_at _ _ (by omega)] at r0 rm
            have f1 := hp1 0 (by omega)
            have f2 := hp1 m (by omega)
            obtain ⟨cb, off, rfl, hbl, hc⟩ := (H0.out.below (KO.on HB.out HBX.out)).cells (by omega)
            have c1 := hc (ps.getD 0 0) (by have := H0.out.len; omega)
            have c2 := hc (ps.getD m 0) (by have := H0.out.len; omega)
            have m1 := row_at (HRM.out.below HBX.out) f1
            have m2 := row_at (HRM.out.below HBX.out) f2
            rw [HMT.out _ f1] at m1
            rw [HMT.out _ f2] at m2
            have HC := hide hc
            have HP1 := hide hp1
            have HP2 := hide hp2
            have HP3 := hide hp3
            clear hXn hrow hbw hbx hp1 hp2 hp3 hp4 hc hm hse
            generalize hpf : ps.getD 0 0 = pf at *
            generalize hpl : ps.getD m 0 = pl at *
            generalize hmf : Iso.mt c pf = mf at *
            generalize hml : Iso.mt c pl = ml at *
            generalize hcf : c.getD pf 0 = cf at *
            generalize hcl : c.getD pl 0 = cl at *
            have hpf3 : (pf : Int) < (n0 : Int) := by omega
            have hpl3 : (pl : Int) < (n0 : Int) := by omega
            have hwr : IntKind.i64.wrap (m : Int) = (m : Int) := by rw [IntKind.wrap_i64]; omega
            have hmm0 : (((m + 1 : Nat) : Int) == 0) = false := beq_false_of_ne (by omega)
            have hmm1 : ((m : Int) + 1 == 0) = false := beq_false_of_ne (by omega)
            have hmm2 : (m : Int) < (m : Int) + 1 := by omega
            have hmm3 : (0 : Int) < (m : Int) + 1 := by omega
            clear hpf hpl hmf hml hcf hcl
            go_wp2
            go_quiet (fail)
            clear d0 d1 d2 d3 hX hxe r0 rm
            go_upto_region 17 with fail
            go_cut [92] from 65 to 92 (fun s92 wx => s92 = .bool false ∧ X.drewN nq = wx)
            case first =>
              have HS := hide (HST.out cl (X.drewN nq))
              by_cases hc23 : cf = 23
              · have hmf0 := hp5 hc23
                have hmf1 : ¬ (0 : Int) ≤ mf := by omega
                subst hc23
                cases hst : Iso.st cl with
                | true =>
                  rw [hst] at HS
                  have hml0 := hp6 hst
                  subst hml0
                  go_wp2_with (go_at_call 18; refine HS.out.mono ?_; rintro e w' ⟨rfl, rfl⟩)
                  go_meet
                  exact ⟨rfl, rfl⟩
                | false =>
                  rw [hst] at HS
                  go_wp2_with (go_at_call 18; refine HS.out.mono ?_; rintro e w' ⟨rfl, rfl⟩)
                  go_meet
                  exact ⟨rfl, rfl⟩
              · have hcf2 : (cf == 23) = false := beq_false_of_ne hc23
                cases hst : Iso.st cl with
                | true =>
                  rw [hst] at HS
                  have hml0 := hp6 hst
                  subst hml0
                  go_wp2_with (go_at_call 18; refine HS.out.mono ?_; rintro e w' ⟨rfl, rfl⟩)
                  go_meet
                  exact ⟨rfl, rfl⟩
                | false =>
                  rw [hst] at HS
                  go_wp2_with (go_at_call 18; refine HS.out.mono ?_; rintro e w' ⟨rfl, rfl⟩)
                  go_meet
                  exact ⟨rfl, rfl⟩
            obtain ⟨rfl, rfl⟩ := hcut
            clear hp5 hp6 c1 c2 m1 m2
            go_wp2
            go_loopw [16] (fun s16 wr => ∃ k q : Nat, 1 ≤ k ∧ k ≤ m + 1 ∧ s16 = .int .i64 (k : Int) ∧ wr = X.drewN q) (fun s16 _ => m + 1 - (intOf s16).toNat)
            case atStart => exact ⟨1, nq, by omega, by omega, rfl, rfl⟩
            case round =>
              obtain ⟨k, q, hk1, hk2, rfl, rfl⟩ := hrel
              by_cases hkm : k < m + 1
              · obtain ⟨k', rfl⟩ : ∃ k', k = k' + 1 := ⟨k - 1, by omega⟩
                have hkl : k' + 1 < ps.length := by rw [HM.out]; exact hkm
                have rx := row_at HROW.out (show k' < m + 1 by omega)
                have ry := row_at HROW.out hkm
                rw [Rn.zs_at _ _ (by omega)] at rx ry
                have hxy := HP2.out k' hkm
                have hx1 := HP1.out k' (by omega)
                have hy1 := HP1.out (k' + 1) hkm
                have hLR := HP3.out k' hkl
                have cx := HC.out (ps.getD k' 0) (by have := H0.out.len; omega)
                have mx := row_at (HRM.out.below HBX.out) hx1
                rw [HMT.out _ hx1] at mx
                have HLX := hide (fun i (hi : i < n0) => row_at (HRL.out.below HBX.out) hi)
                have HNK := hide (fun (i : Nat) (h1 : ps.getD k' 0 < i) (h2 : i < ps.getD (k' + 1) 0) (ha : Rn.Adj (Ex.LV b c) (ps.getD k' 0) (ps.getD (k' + 1) 0)) => (HLV.out i (by omega)).2 (ha.2 i h1 h2))
                generalize ps.getD k' 0 = x at *
                generalize ps.getD (k' + 1) 0 = y at *
                have hkm2 : (k' : Int) + 1 < (m : Int) + 1 := by omega
                have hkm3 : (k' : Int) < (m : Int) + 1 := by omega
                have hwk : IntKind.i64.wrap (k' : Int) = (k' : Int) := by rw [IntKind.wrap_i64]; omega
                have ex1 : ((x + 1 : Nat) : Int) = (x : Int) + 1 := by omega
                have hLR2 := hide hLR
                clear hLR hkl
                go_wp2
                go_loopw [17, 18] (fun s17 s18 wr => ∃ (i : Nat) (gp : Bool), x < i ∧ i ≤ y ∧ s18 = .int .i64 (i : Int) ∧ s17 = .bool gp ∧ Hid (Rn.Adj (Ex.LV b c) x y → gp = false) ∧ wr = X.drewN q) (fun _ s18 _ => y - (intOf s18).toNat)
                case atStart => exact ⟨x + 1, false, by omega, by omega, by go_num, rfl, hide (fun _ => rfl), rfl⟩
                case round =>
                  obtain ⟨i, gp, hi1, hi2, rfl, rfl, hgp, rfl⟩ := hrel
                  by_cases hiy : i < y
                  · have hiy2 : (i : Int) < (y : Int) := by omega
                    have li := HLX.out i (by omega)
                    have HN2 := hide (fun ha => HNK.out i hi1 hiy ha)
                    generalize (Ex.LV b c).getD i 0 = z at *
                    have hin3 : (i : Int) < (n0 : Int) := by omega
                    cases gp with
                    | true =>
                      go_wp2
                      exact ⟨⟨i + 1, true, by omega, by omega, by go_num, rfl, hgp, trivial⟩, by simp [intOf]; omega⟩
                    | false =>
                      by_cases hz : 0 ≤ z
                      · go_wp2
                        exact ⟨⟨i + 1, true, by omega, by omega, by go_num, by simp, hide (fun ha => absurd (HN2.out ha) (by omega)), trivial⟩, by simp [intOf]; omega⟩
                      · go_wp2
                        exact ⟨⟨i + 1, false, by omega, by omega, by go_num, by simp, hgp, trivial⟩, by simp [intOf]; omega⟩
                  · obtain rfl : i = y := by omega
                    have hiy2 : ¬ (i : Int) < (i : Int) := by omega
                    cases gp with
                    | false =>
                      clear HNK HLX hgp hLR2
                      go_wp2
                      go_quiet (fail)
                      go_wp2
                      exact ⟨⟨k' + 1 + 1, _, by omega, by omega, by go_num, rfl⟩, by simp [intOf]; omega⟩
                    | true =>
                      rcases hLR2.out with ha | ⟨hsx, hpx⟩
                      · have := hgp.out ha
                        cases this
                      · have emx : Iso.mt c x = (i : Int) := by rw [Rn.mt_st hsx, hpx]
                        rw [emx] at mx
                        have HS := hide (fun w' => HST.out (c.getD x 0) w')
                        rw [hsx] at HS
                        generalize c.getD x 0 = cx0 at *
                        have hx3 : (x : Int) < (n0 : Int) := by omega
                        clear HNK HLX hgp hLR2 emx hsx hpx
                        go_wp2
                        go_quiet (first | (go_at_call 18; first | exact Calls.quiet_of_same ((HS.out _).mono fun _ _ ⟨he, hm⟩ => ⟨he, hm.symm⟩) | exact (HS.out _).mono fun _ _ ⟨he, hm⟩ => ⟨he, _, hm.symm⟩))
                        go_wp2
                        exact ⟨⟨k' + 1 + 1, _, by omega, by omega, by go_num, rfl⟩, by simp [intOf]; omega⟩
              · obtain rfl : k = m + 1 := by omega
                have hne2 : ¬ ((m : Int) + 1 < (m : Int) + 1) := by omega
                have HE := hide (KO.on HBX.out (below_drewN X q))
                go_wp2
                exact ⟨⟨j + 1, by omega, by go_num, HE⟩, by simp [intOf]; omega⟩
          · obtain rfl : j = L := by omega
            have hne2 : ¬ ((j : Int) < (j : Int)) := by omega
            have HE := hide (KO.on HB.out hbw.out)
            clear hbw
            go_wp2
            go_ret
            exact ⟨rfl, HE.out⟩
      · have HR := hide (fun w' (hk : KO w w') => sequences_form a0 n0 cap0 c b w' (h0.below hk) hs0 hb hF)
        clear h0 hf0 hs0 hF
        go_enter Try.func6, Try.ntmps6
        go_wp2_with (first
          | (go_at_call 9; refine HW.out.mono ?_; rintro e w1 ⟨rfl, hb1⟩)
          | (go_at_call 14; refine (HR.out _ hb1).mono ?_; rintro e w2 ⟨rfl, rfl⟩))
        go_ret
        exact ⟨rfl, hb1⟩
end Go.Proofs.Ythohbiklnknofaa
