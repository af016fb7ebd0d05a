/- The search for pairs: its contract. -/
import Derived.Test.YtkkmifpdhcdkpaaDoorBk
import Derived.WalkMore
namespace Go.Proofs.YtkkmifpdhcdkpaaDoor
open Go.RowKit
set_option linter.unusedVariables false
set_option maxHeartbeats 1000000
set_option maxRecDepth 100000
theorem run_cut2 (g n cap j : Nat) (hj : j ≤ cap) (w : World) :
    (Instr.slice 65 (.slice (some ⟨g, 0, none⟩) n cap) none (some (.int .i64 (j : Int))) none).run Tryd.prog w = .ok (.slice (some ⟨g, 0, none⟩) j cap) w := by
  have e1 : (0 : Int) ≤ (j : Int) ∧ (j : Int) ≤ (cap : Int) := by omega
  simp [Instr.slice, run_underlying Tryd.underlying65, Instr.sliceBounds, go_sem, e1]
theorem bsearch_any (a0 a1 : Option Addr) (n c0 c1 : Nat) (l t : List Int) (w : World) (h0 : Row .i32 w a0 n c0 l) (h1 : Row .i64 w a1 n c1 t) (hf : ∀ x ∈ l, (Lit.int .i32 x).wf = true) (hm : Marks w) (hn : n * 8 ≤ 140737488351232) :
    Calls Tryd.prog 20 #[.slice a0 n c0, .slice a1 n c1] w fun e w' => ∃ v, e = .returned v ∧ w'.ownsRow w.heap.size 42 2 v (Br.FF l t).length (flat2 (Br.FF l t)) ∧ Below w.heap.size w w' := by
  obtain ⟨iw, hiw, hy0, hy1, hy2⟩ := info_parts waitInfo
  obtain ⟨ip, hip, hz0, hz1, hz2⟩ := info_parts pairInfo
  have HIW := hide hiw
  have HY0 := hide hy0
  have HY1 := hide hy1
  have HY2 := hide hy2
  have HIP := hide hip
  have HZ0 := hide hz0
  have HZ1 := hide hz1
  have HZ2 := hide hz2
  have H0 := hide h0
  have H1 := hide h1
  have HF := hide hf
  have HM := hide hm
  have hbw := build_wait
  have hbw1 := build_wait1
  have hb2 := build_two
  have hb21 := build_pair1
  have hle := h0.le
  have hmx := h0.max
  unfold maxLen at hmx
  have HFF : Hid (Br.FF l t = Br.F (Br.kd l t) (Br.mt l) n) := hide (by rw [← h0.len]; rfl)
  clear hiw hy0 hy1 hy2 hip hz0 hz1 hz2 h0 h1 hf hm
  go_enter Tryd.func20, Tryd.ntmps20
  go_wp2
  go_step3
  go_wp2_with (at_make; refine wpList_make_own _ rfl _ _ 65 rfl w.heap.size 67 iw _ 2 Tryd.underlying65 HIW.out HY0.out HY1.out _ _ _ 63 rfl rfl rfl (by rw [HY2.out]; omega) (by unfold maxLen; omega) (Nat.le_refl _) ?_; intro w1 hown1 hg1)
  have HS0 : Hid (SW l w [] [] w.heap.size 63 (.slice none 0 0) w1) := hide ⟨Below.grown (Below.refl _ _) hg1 (Nat.le_refl _) (fun j hj => by cases hj), hown1, World.ownsRow_nil _ _ _ _⟩
  clear hown1 hg1
  go_step3
  go_wp2
  go_loopw [5, 6, 15] (fun s5 s6 s15 wr => ∃ (k : Nat) (W : List Nat) (ps : List (Nat × Nat)) (g cap : Nat) (vp : Value), vp = s5 ∧ s6 = .slice (some ⟨g, 0, none⟩) W.length cap ∧ s15 = .int .i64 k ∧ k ≤ n ∧ Hid (Br.at' (Br.kd l t) (Br.mt l) k = ⟨false, W, ps⟩) ∧ Hid (SW l w W ps g cap vp wr)) (fun s5 s6 s15 wr => n - (intOf s15).toNat)
  case atStart => exact ⟨0, [], [], w.heap.size, 63, _, rfl, rfl, rfl, by omega, hide rfl, HS0⟩
  case round =>
    obtain ⟨k, W, ps, g, cap, vp, hvp, rfl, rfl, hk, HA, HS⟩ := hrel
    subst hvp
    clear HS0
    by_cases hlt : k < n
    · have hlt' : (k : Int) < (n : Int) := by omega
      have HK := hide (H0.out.below HS.out.old)
      obtain ⟨b0, o0, e0, hb0, hc0⟩ := HK.out.cells (by omega)
      obtain ⟨b1, o1, e1, hb1, hc1⟩ := (H1.out.below HS.out.old).cells (by omega)
      have g0 := hc0 k (by rw [H0.out.len]; exact hlt)
      have g1 := hc1 k (by rw [H1.out.len]; exact hlt)
      subst e0; subst e1
      have hwl := HS.out.caps
      have hw6 : W.length ≤ 63 := by have := (Br.inv (kd := Br.kd l t) (mt := Br.mt l) k).wlen; rw [HA.out] at this; exact this
      have hpl : 2 * ps.length + W.length ≤ k := Br.ps_len HA.out
      have HXF : Hid ((Lit.int .i32 (l.getD k 0)).wf = true) := hide (HF.out _ (by
        have hl : k < l.length := by rw [H0.out.len]; exact hlt
        rw [show l.getD k 0 = l[k] from by simp [List.getD, List.getElem?_eq_getElem hl]]
        exact List.getElem_mem hl))
      have HBR := hide (bracket_any (l.getD k 0) wr HXF.out (HM.out.below HS.out.old))
      have HWB := hide HS.out.old
      clear hc0 hc1 hb0 hb1 HK
      by_cases ht : t.getD k 0 = 14
      · have HKD := hide (Br.kd_on (l := l) ht)
        rw [ht] at g1
        have hsd := Ucd.side_ok (l.getD k 0)
        have h3 : (Ucd.side (l.getD k 0)).1 = 0 ∨ (Ucd.side (l.getD k 0)).1 = 1 ∨ (Ucd.side (l.getD k 0)).1 = 2 := by omega
        have HEN : Hid (Br.en l k = Ucd.canon (Ucd.side (l.getD k 0)).2) := hide rfl
        have HMT : Hid (∀ x, Br.mt l x k = (Br.en l x == Ucd.canon (l.getD k 0))) := hide fun x => rfl
        clear ht hsd
        generalize (Ucd.side (l.getD k 0)).2 = pa at *
        rcases h3 with h3 | h3 | h3
        · rw [h3] at HBR HKD
          have HN := hide (Br.step_skip HA.out (by rw [HKD.out]; decide) (by rw [HKD.out]; decide))
          clear h3 HKD HA HMT HEN
          generalize l.getD k 0 = r at *
          go_wp2_with fail
          refine HBR.out.mono ?_
          rintro e w2 ⟨rfl, hb2'⟩
          have HS2 := hide (HS.out.below hb2')
          clear HS hb2' HBR
          go_wp2
          go_roundw
          case rel => exact ⟨k + 1, W, ps, g, cap, _, rfl, rfl, by go_num, by omega, HN, HS2⟩
          case measure => simp [intOf]; omega
        · rw [h3] at HBR HKD
          by_cases h6 : W.length = 63
          · have HN := hide (Br.F_full (n := n) HA.out HKD.out h6 hlt)
            clear h3 HKD HMT HEN
            generalize l.getD k 0 = r at *
            have h6' : (W.length : Int) = 63 := by omega
            go_wp2_with fail
            refine HBR.out.mono ?_
            rintro e w2 ⟨rfl, hb2'⟩
            have HS2 := hide (HS.out.below hb2')
            clear HS hb2' HBR
            rw [h6]
            go_wp2
            rw [Exit.noGoto_ret]
            go_ret
            refine ⟨_, rfl, ?_, HS2.out.old⟩
            rw [HFF.out, HN.out]
            exact HS2.out.ps
          · have HN := hide (Br.step_open HA.out HKD.out h6)
            have h6' : ¬ (W.length : Int) = 63 := by omega
            have h6b : ((W.length : Int) == 63) = false := beq_false_of_ne h6'
            have HCN := hide (fun V => canon_any pa V)
            clear h3 HKD HMT
            generalize l.getD k 0 = r at *
            generalize hWL : W.length = m at *
            have HWL := hide hWL
            clear hWL
            go_wp2_with fail
            refine HBR.out.mono ?_
            rintro e w2 ⟨rfl, hb2'⟩
            have HS2 := hide (HS.out.below hb2')
            clear HS hb2' HBR
            go_wp2_with fail
            refine (HCN.out _).mono ?_
            rintro e w3 ⟨rfl, rfl⟩
            rw [← HEN.out]
            generalize hEL : Br.en l k = el at *
            have HEL := hide hEL
            clear hEL HCN HEN
            go_wp2_with (at_builtin; refine wpList_append_two w2 rfl _ _ 65 rfl w.heap.size 67 iw _ Tryd.underlying65 HIW.out HY0.out HY1.out HY2.out rfl _ m (wcs l W) rfl (.int .i64 (k : Int)) (.int .i32 el) (by have := HS2.out.wt; rw [HWL.out] at this; exact this) _ rfl rfl (by simp [Value.oneCell']) (by omega) HS2.out.old.size ?_; intro v' w' ho' hg'; rw [← HWL.out] at ho' hg'; rw [← HEL.out] at ho' hg'; obtain ⟨g', cap', rfl, hsw⟩ := HS2.out.push ho' hg')
            go_roundw
            case rel => exact ⟨k + 1, k :: W, ps, g', cap', _, rfl, rfl, by go_num, by omega, HN, hide hsw⟩
            case measure => simp [intOf]; omega
        · rw [h3] at HBR HKD
          have HCN := hide (fun V => canon_any (l.getD k 0) V)
          have HKD2 := hide HKD.out
          clear h3 HEN
          generalize l.getD k 0 = r at *
          go_wp2_with fail
          refine HBR.out.mono ?_
          rintro e w2 ⟨rfl, hb2'⟩
          have HS2 := hide (HS.out.below hb2')
          clear HS hb2' HBR
          generalize Ucd.canon r = cr at *
          go_wp2
          have HSQ := hide (fun q1 q2 => (HS2.out.below (below_drewN w2 q1)).below (below_drewN _ q2))
          go_loopw [5, 6, 11] (fun s5 s6 s11 wi => ∃ (A R : List Nat) (q : Nat), vp = s5 ∧ s6 = .slice (some ⟨g, 0, none⟩) W.length cap ∧ s11 = .int .i64 ((R.length : Int) - 1) ∧ W = A ++ R ∧ wi = w2.drewN q ∧ Hid (Br.fd (Br.mt l) k W = Br.fd (Br.mt l) k R)) (fun s5 s6 s11 wi => (intOf s11 + 1).toNat)
          case atStart => exact ⟨[], W, 0, rfl, rfl, rfl, rfl, rfl, hide rfl⟩
          case round =>
            obtain ⟨A, R, q, hv5, rfl, rfl, hAR, rfl, HFD⟩ := hrel
            subst hv5
            cases R with
            | nil =>
              have HN := hide (Br.step_none HA.out HKD2.out (by rw [HFD.out]; rfl))
              have HS3 := hide (HS2.out.below (below_drewN w2 q))
              clear HFD hAR HA HS2 HSQ
              simp only [List.length_nil]
              go_wp2
              go_roundw
              case rel => exact ⟨k + 1, W, ps, g, cap, _, rfl, rfl, by go_num, by omega, HN, HS3⟩
              case measure => simp [intOf]; omega
            | cons x R =>
              obtain ⟨t0, t1⟩ := HS2.out.top hAR
              have hRW : R.length + 1 ≤ W.length := by rw [hAR]; simp
              have hge : (0 : Int) ≤ (R.length : Int) := by omega
              have hRi : ((R.length + 1 : Nat) : Int) - 1 = (R.length : Int) := by omega
              have HXM := HMT.out x
              simp only [List.length_cons]
              rw [hRi]
              by_cases hx : Br.en l x = cr
              · have HFX : Hid (Br.fd (Br.mt l) k W = x :: R) := hide (by rw [HFD.out, Br.fd, HXM, hx]; simp)
                have HN := hide (Br.step_some HA.out HKD2.out HFX.out)
                rw [hx] at t1
                have hcu := run_cut2 g W.length cap R.length (by omega)
                have HAR := hide (show W = (A ++ [x]) ++ R from by rw [hAR]; simp)
                generalize hRL : R.length = m at *
                have HRL := hide hRL
                generalize hWL : W.length = mW at *
                have HWL := hide hWL
                have hmW : (m : Int) < (mW : Int) := by omega
                clear HXM HFD hx hAR HFX HA hRL hWL
                go_wp2_with fail
                go_quiet (first | (go_at_call 18; first | exact Calls.quiet_of_same ((HCN.out _).mono fun _ _ ⟨he, hm⟩ => ⟨he, hm.symm⟩) | exact (HCN.out _).mono fun _ _ ⟨he, hm⟩ => ⟨he, _, hm.symm⟩))
                go_wp2_with (at_builtin; refine wpList_append_two (w2.drewN (q + nq)) rfl _ _ 25 rfl w.heap.size 42 ip _ Tryd.underlying25 HIP.out HZ0.out HZ1.out HZ2.out rfl vp ps.length (flat2 ps) rfl (.int .i64 (x : Int)) (.int .i64 (k : Int)) (HS2.out.below (below_drewN w2 (q + nq))).ps _ rfl rfl (by simp [Value.oneCell']) (by omega) (HS2.out.below (below_drewN w2 (q + nq))).old.size ?_; intro v' w' ho' hg'; have hsw := ((HS2.out.below (below_drewN w2 (q + nq))).pair (p := (x, k)) ho' hg').cut HAR.out)
                rw [← HRL.out]
                go_roundw
                case rel => exact ⟨k + 1, R, _, g, cap, _, rfl, rfl, by go_num, by omega, HN, hide hsw⟩
                case measure => simp [intOf]; omega
              · have HFX : Hid (Br.fd (Br.mt l) k W = Br.fd (Br.mt l) k R) := hide (by rw [HFD.out, Br.fd, HXM, if_neg (by simpa using hx)])
                have hxb : (Br.en l x == cr) = false := beq_false_of_ne hx
                have HAR := hide (show W = (A ++ [x]) ++ R from by rw [hAR]; simp)
                generalize hRL : R.length = m at *
                have HRL := hide hRL
                generalize hWL : W.length = mW at *
                have hmW : (m : Int) < (mW : Int) := by omega
                generalize Br.en l x = ex at *
                clear HXM HFD hx hAR HA hRL hWL
                go_wp2_with fail
                go_quiet (first | (go_at_call 18; first | exact Calls.quiet_of_same ((HCN.out _).mono fun _ _ ⟨he, hm⟩ => ⟨he, hm.symm⟩) | exact (HCN.out _).mono fun _ _ ⟨he, hm⟩ => ⟨he, _, hm.symm⟩))
                go_wp2
                go_roundw
                case rel => exact ⟨A ++ [x], R, _, rfl, rfl, by rw [HRL.out], HAR.out, rfl, HFX⟩
                case measure => simp [intOf]
      · have HN := hide (Br.step_skip HA.out (by rw [Br.kd_not ht]; decide) (by rw [Br.kd_not ht]; decide))
        clear HA HBR
        generalize t.getD k 0 = y at *
        have hy : (y == 14) = false := beq_false_of_ne ht
        generalize l.getD k 0 = r at *
        go_wp2
        go_roundw
        case rel => exact ⟨k + 1, W, ps, g, cap, _, rfl, rfl, by go_num, by omega, HN, HS⟩
        case measure => simp [intOf]; omega
    · obtain rfl : k = n := by omega
      have HFX : Hid (Br.FF l t = ps) := hide (by rw [HFF.out]; unfold Br.F; rw [HA.out])
      clear HA
      go_wp2
      rw [Exit.noGoto_ret]
      go_ret
      refine ⟨_, rfl, ?_, HS.out.old⟩
      rw [HFX.out]
      exact HS.out.ps
end Go.Proofs.YtkkmifpdhcdkpaaDoor
