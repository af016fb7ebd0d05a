/- The document's Pairs (colophonref10): its contract. -/
import Derived.Test.YtkkmifpdhcdkpaaDoorRk10
import Derived.Test.YtkkmifpdhcdkpaaDoorBp
namespace Go.Proofs.YtkkmifpdhcdkpaaDoor
open Go.RowKit
set_option linter.unusedVariables false
set_option maxHeartbeats 2000000
set_option maxRecDepth 100000
theorem run_cutI (ao : Option Addr) (n cap j : Nat) (hj : j ≤ cap) (w : World) :
    (Instr.slice 23 (.slice ao n cap) none (some (.int .i64 (j : Int))) none).run Tryd.prog w = .ok (.slice ao j cap) w := by
  obtain ⟨ii, hii, _⟩ := info_parts infoInt
  exact run_upto Tryd.underlying23 hii cellsInt ao n cap j hj w
/-- What the last loop keeps. -/
structure RO (w0 : World) (g n : Nat) (F : List (Nat × Nat)) (k : Nat) (vo : Value) (w : World) : Prop where
  bel : Below w0.heap.size w0 w
  out : w.ownsRow w0.heap.size 42 2 vo (Br.PSk (Br.pr F) k).length (flat2 (Br.PSk (Br.pr F) k))
  par : w.ownsRow w0.heap.size 3 1 (.slice (some ⟨g, 0, none⟩) n n) n ((Br.prl F n).map (Value.int .i64))
theorem rpairs_bad (a0 a1 : Option Addr) (n m c0 c1 : Nat) (w : World) (hne : ¬ n = m) (hn : n ≤ 9223372036854775807) (hm : m ≤ 9223372036854775807) :
    Calls Tryd.prog 11 #[.slice a0 n c0, .slice a1 m c1] w fun e w' => e = .returned (.tuple #[.slice none 0 0, .int .i64 2]) ∧ w = w' := by
  have h1 : ((n : Int) == (m : Int)) = false := beq_false_of_ne (by omega)
  have h2 : ¬ (n : Int) = (m : Int) := by omega
  go_enter Tryd.func11, Tryd.ntmps11
  go_wp2
  go_ret2
  exact ⟨rfl, rfl⟩
theorem rpairs_ok (a0 a1 : Option Addr) (n c0 c1 : Nat) (l t : List Int) (w : World) (h0 : Row .i32 w a0 n c0 l) (h1 : Row .i64 w a1 n c1 t) (hf : ∀ x ∈ l, (Lit.int .i32 x).wf = true) (hn : n ≤ 80000) :
    Calls Tryd.prog 11 #[.slice a0 n c0, .slice a1 n c1] w fun e w' => ∃ ao cap, e = .returned (.tuple #[.slice ao (Br.PP l t).length cap, .int .i64 0]) ∧ Pairs w' ao (Br.PP l t).length cap (Br.PP l t) ∧ Below w.heap.size w w' ∧ ∀ b o, ao = some ⟨b, o, none⟩ → w.heap.size ≤ b := by
  obtain ⟨ii, hii, hy0, hy1, hy2⟩ := info_parts infoInt
  obtain ⟨ip, hip, hz0, hz1, hz2⟩ := info_parts pairInfo
  have HII := hide hii
  have HY0 := hide hy0
  have HY1 := hide hy1
  have HY2 := hide hy2
  have HIP := hide hip
  have HZ0 := hide hz0
  have HZ1 := hide hz1
  have HZ2 := hide hz2
  have H0 := hide h0
  have H1 := hide h1
  have HF := hide hf
  have hb2 := build_two
  have hb21 := build_pair1
  have hle := h0.le
  have hmx := h0.max
  unfold maxLen at hmx
  have HPP : Hid (Br.PP l t = Br.PSk (Br.pr (Br.F (Br.kd l t) (Br.mt l) n)) n) := hide (by rw [← h0.len]; rfl)
  clear hii hy0 hy1 hy2 hip hz0 hz1 hz2 h0 h1 hf
  go_enter Tryd.func11, Tryd.ntmps11
  go_wp2_with (at_make; refine wpList_make_full _ rfl _ _ 23 rfl w.heap.size 3 ii (.int .i64 0) 1 Tryd.underlying23 HII.out HY0.out HY1.out _ _ _ _ n rfl rfl rfl rfl ?b2 ?b3 (Nat.le_refl _) ?_)
  case b2 => rw [HY2.out]; omega
  case b3 => unfold maxLen; omega
  intro w1 hown hgrow
  have hbel := (Below.refl w.heap.size w).grown hgrow (Nat.le_refl _) (fun _ h => by cases h)
  have HJ0 : Hid (J2 3 w w1 (.slice none 0 0) 0 (Br.wl []) (.slice (some ⟨w.heap.size, 0, none⟩) n n) n (Br.prl [] n)) := hide (by
    refine ⟨World.ownsRow_nil _ _ _ _, ?_, fun g h => by simp [Value.ownBlock] at h, hbel⟩
    have e : (madeCells #[Value.int .i64 0] n).toList = (Br.prl [] n).map (Value.int .i64) := by
      rw [Br.prl_nil]
      simp [toList_madeCells_one]
    rw [← e]
    simpa using hown)
  clear hown hgrow hbel
  go_wp2
  generalize hG : w.heap.size = g0 at HJ0
  have HG := hide hG
  clear hG
  go_loopw [7, 8] (fun s7 s8 wr => ∃ (k : Nat) (W : List Nat) (ps : List (Nat × Nat)) (va : Value), va = s7 ∧ s8 = .int .i64 k ∧ k ≤ n ∧ Hid (Br.at' (Br.kd l t) (Br.mt l) k = ⟨false, W, ps⟩) ∧ Hid (J2 3 w wr va W.length (Br.wl W) (.slice (some ⟨g0, 0, none⟩) n n) n (Br.prl ps n))) (fun s7 s8 wr => n - (intOf s8).toNat)
  case atStart => exact ⟨0, [], [], _, rfl, rfl, by omega, hide rfl, HJ0⟩
  case round =>
    obtain ⟨k, W, ps, va, hva, rfl, hk, HA, HJ⟩ := hrel
    subst hva
    clear HJ0
    by_cases hlt : k < n
    · have hlt' : (k : Int) < (n : Int) := by omega
      have HKD := hide (rkind_any a0 a1 n c0 c1 k l t wr (H0.out.below HJ.out.bel) (H1.out.below HJ.out.bel) hlt)
      have hw6 : W.length ≤ 63 := by have := (Br.inv (kd := Br.kd l t) (mt := Br.mt l) k).wlen; rw [HA.out] at this; exact this
      obtain ⟨av, cv, eva, hcv⟩ := owns_form HJ.out.oa
      subst eva
      have h3 : Br.kd l t k = 0 ∨ Br.kd l t k = 1 ∨ Br.kd l t k = 2 := by
        by_cases ht : t.getD k 0 = 14
        · rw [Br.kd_on ht]; have := Ucd.side_ok (l.getD k 0); omega
        · rw [Br.kd_not ht]; omega
      rcases h3 with h3 | h3 | h3
      · have HN := hide (Br.step_skip HA.out (by rw [h3]; decide) (by rw [h3]; decide))
        rw [h3] at HKD
        clear h3 HA
        go_wp2_with fail
        refine HKD.out.mono ?_
        rintro e w2 ⟨rfl, hk2⟩
        have HJ2 := hide (HJ.out.below hk2)
        clear hk2 HKD HJ
        go_wp2
        go_roundw
        case rel => exact ⟨k + 1, W, ps, _, rfl, by go_num, by omega, HN, HJ2⟩
        case measure => simp [intOf]; omega
      · rw [h3] at HKD
        by_cases h6 : W.length = 63
        · have HPS := hide (Br.F_full (n := n) HA.out h3 h6 hlt)
          have h6' : (63 : Int) ≤ (W.length : Int) := by omega
          clear h3 HA
          go_wp2_with fail
          refine HKD.out.mono ?_
          rintro e w2 ⟨rfl, hk2⟩
          have HR0 : Hid (RO w g0 n ps 0 (.slice none 0 0) w2) := hide ⟨(HJ.out.below hk2).bel, World.ownsRow_nil _ _ _ _, (HJ.out.below hk2).ob⟩
          clear hk2 HKD HJ
          go_wp2
          have hPQ : Br.PP l t = Br.PSk (Br.pr ps) n := by rw [HPP.out, HPS.out]
          have HPQ := hide hPQ
          clear hPQ
          go_loopw [11, 12] (fun s11 s12 wr => ∃ (i : Nat) (vo : Value), vo = s11 ∧ s12 = .int .i64 (i : Int) ∧ i ≤ n ∧ Hid (RO w g0 n ps i vo wr)) (fun _ s12 _ => n - (intOf s12).toNat)
          case atStart => exact ⟨0, _, rfl, rfl, Nat.zero_le _, HR0⟩
          case round =>
            rename World => wq
            obtain ⟨i, vo, hvo, rfl, hi, HR⟩ := hrel
            subst hvo
            clear HR0
            by_cases hin : i < n
            · have hin' : (i : Int) < (n : Int) := by omega
              have ci := owns_cell HR.out.par i hin
              rw [Br.prl_at ps hin] at ci
              have HSU := hide (Br.PSk_succ (Br.pr ps) i)
              have hpl := Br.PSk_len (Br.pr ps) i
              obtain ⟨ao, co, eo, hco⟩ := owns_form HR.out.out
              by_cases hp : 0 < Br.pr ps i
              · have HS2 : Hid (Br.PSk (Br.pr ps) (i + 1) = Br.PSk (Br.pr ps) i ++ [(i, Br.pr ps i)]) := hide (by rw [HSU.out, if_pos hp])
                generalize Br.pr ps i = q at *
                have hp' : (0 : Int) < (q : Int) := by omega
                have ca := (Below.cell ((Below.refl wq.heap.size wq)) (p := ⟨g0, i, none⟩) (by exact (HR.out.par.lt g0 rfl).2)).trans ci
                clear HSU ca
                go_wp2_with (at_builtin; refine wpList_append_two wq rfl _ _ 25 rfl w.heap.size 42 ip _ Tryd.underlying25 HIP.out HZ0.out HZ1.out HZ2.out rfl vo (Br.PSk (Br.pr ps) i).length (flat2 (Br.PSk (Br.pr ps) i)) rfl (.int .i64 (i : Int)) (.int .i64 (q : Int)) HR.out.out _ rfl rfl (by simp [Value.oneCell']) (by omega) HR.out.bel.size ?_; intro v' w' ho' hg'; have HR2 : Hid (RO w g0 n ps (i + 1) v' w') := hide ⟨Below.grown (KO.alloc HR.out.bel _) hg' (by simp; have := HR.out.bel.size; omega) (fun j hj => (HR.out.out.lt j hj).1), by rw [HS2.out, List.length_append, flat2_snoc]; exact ho', (HR.out.par.alloc _).kept hg' (owns_apart HR.out.par HR.out.out (by decide))⟩; clear ho' hg')
                go_roundw
                case rel => exact ⟨i + 1, _, rfl, by go_num, by omega, HR2⟩
                case measure => simp [intOf]; omega
              · have HS2 : Hid (Br.PSk (Br.pr ps) (i + 1) = Br.PSk (Br.pr ps) i) := hide (by rw [HSU.out, if_neg hp, List.append_nil])
                have HR2 : Hid (RO w g0 n ps (i + 1) vo wq) := hide ⟨HR.out.bel, by rw [HS2.out]; exact HR.out.out, HR.out.par⟩
                have hp' : ¬ (0 : Int) < (Br.pr ps i : Int) := by omega
                generalize Br.pr ps i = q at *
                clear HSU HR
                go_wp2
                go_roundw
                case rel => exact ⟨i + 1, _, rfl, by go_num, by omega, HR2⟩
                case measure => simp [intOf]; omega
            · obtain rfl : i = n := by omega
              have hne9 : ¬ ((i : Int) < (i : Int)) := by omega
              obtain ⟨ao, co, eo, hpo⟩ := pairs_of_owns HR.out.out
              subst eo
              have HPO := hide hpo
              have HBE := hide HR.out.bel
              have HFR := hide (fun b o (hb : ao = some ⟨b, o, none⟩) => show w.heap.size ≤ b from (HR.out.out.lt b (by rw [hb]; rfl)).1)
              clear hpo HR
              go_wp2
              go_ret2
              exact ⟨ao, co, by rw [HPQ.out]; rfl, by rw [HPQ.out]; exact HPO.out, HBE.out, HFR.out⟩
        · have HN := hide (Br.step_open HA.out h3 h6)
          have h6' : ¬ (63 : Int) ≤ (W.length : Int) := by omega
          clear h3 HA
          go_wp2_with fail
          refine HKD.out.mono ?_
          rintro e w2 ⟨rfl, hk2⟩
          have HJ2 := hide ((HJ.out.below hk2).below ((Below.refl w2.heap.size w2).alloc (Nat.le_refl _) (.cells #[.int .i64 (k : Int)] 3)))
          have HRW := hide (row_one w2 w2.heap.size rfl (k : Int))
          clear hk2 HKD HJ
          generalize hWL : W.length = m at *
          go_wp2_with (at_builtin; refine wpList_j2 HJ2.out rfl (.tmp 40) (.tmp 42) 23 rfl ii (.int .i64 0) Tryd.underlying23 HII.out HY0.out HY1.out HY2.out rfl rfl ⟨w2.heap.size, 0, none⟩ (k : Int) rfl HRW.out (by omega) ?_; intro g3 cp3 w3 hJ3; have HJ3 := hide hJ3; clear hJ3)
          go_roundw
          case rel => exact ⟨k + 1, k :: W, ps, _, rfl, by go_num, by omega, HN, by rw [List.length_cons, hWL, Br.wl_cons]; exact HJ3⟩
          case measure => simp [intOf]; omega
      · rw [h3] at HKD
        have HK2 := hide h3
        clear h3
        go_wp2_with fail
        refine HKD.out.mono ?_
        rintro e w2 ⟨rfl, hk2⟩
        have HJ2 := hide (HJ.out.below hk2)
        clear hk2 HKD HJ
        go_wp2
        go_loopw [10] (fun s10 wi => ∃ (A R : List Nat), s10 = .int .i64 (R.length : Int) ∧ W = A ++ R ∧ Hid (Br.fd (Br.mt l) k W = Br.fd (Br.mt l) k R) ∧ Hid (KO w2 wi)) (fun s10 wi => (intOf s10).toNat)
        case atStart => exact ⟨[], W, rfl, rfl, hide rfl, hide (KO.refl _)⟩
        case round =>
          rename World => wi
          obtain ⟨A, R, rfl, hAR, HFD, HKI⟩ := hrel
          have HJI := hide (HJ2.out.below HKI.out)
          cases R with
          | nil =>
            have HN := hide (Br.step_none HA.out HK2.out (by rw [HFD.out]; rfl))
            clear HFD hAR HA HJ2 HKI
            simp only [List.length_nil]
            go_wp2
            go_roundw
            case rel => exact ⟨k + 1, W, ps, _, rfl, by go_num, by omega, HN, HJI⟩
            case measure => simp [intOf]; omega
          | cons x R =>
            have hAA := HA.out
            rw [hAR] at hAA
            obtain ⟨hxp, hxk⟩ := Br.wait_apart hAA
            have hRW : R.length + 1 ≤ W.length := by rw [hAR]; simp
            obtain ⟨gv, cv2, ev, hbv, hlv⟩ := owns_pos HJI.out.oa (by omega)
            simp only [Value.slice.injEq] at ev
            obtain ⟨rfl, _, rfl⟩ := ev
            have hcx := owns_cell HJI.out.oa R.length (by omega)
            rw [show (Br.wl W).getD R.length 0 = (x : Int) from by rw [hAR]; exact Br.wl_at A R x] at hcx
            have HEN := hide (rends_any a0 n c0 x k l wi (H0.out.below HJI.out.bel) HF.out (by omega) hlt)
            have hRi : ((R.length + 1 : Nat) : Int) - 1 = (R.length : Int) := by omega
            have hRp : (0 : Int) < ((R.length + 1 : Nat) : Int) := by omega
            have hRl : (R.length : Int) < (W.length : Int) := by omega
            simp only [List.length_cons]
            cases hmt : Br.mt l x k with
            | true =>
              rw [hmt] at HEN
              have HFX : Hid (Br.fd (Br.mt l) k W = x :: R) := hide (by rw [HFD.out, Br.fd, hmt]; rfl)
              have HN := hide (Br.step_some HA.out HK2.out HFX.out)
              have HPX := hide (Br.prl_snoc (k := k) (n := n) hxp (by omega))
              have HWA := hide (show Br.wl W = Br.wl R ++ Br.wl (A ++ [x]) from by rw [hAR, ← Br.wl_app]; simp)
              have hcu := run_cutI (some ⟨gv, 0, none⟩) W.length cv R.length (by omega)
              have hxn : (x : Int) < (n : Int) := by omega
              generalize hRL : R.length = m at *
              generalize hWL : W.length = mW at *
              clear HFD hAR hAA HA hxp HFX hmt
              go_wp2_with fail
              refine HEN.out.mono ?_
              rintro e w3 ⟨rfl, hk3⟩
              have hj3 := HJI.out.below hk3
              have hc3 := owns_cell hj3.oa m (by omega)
              rw [show (Br.wl W).getD m 0 = (x : Int) from by
                have h1 := owns_cell HJI.out.oa m (by omega)
                rw [hcx] at h1
                simpa using h1.symm] at hc3
              have co := owns_cell hj3.ob x (by omega)
              have hfz := hj3.ob.frozenAt x
              have HS3 := hide (hj3.setB (n := n) x (k : Int))
              rw [← HPX.out, HWA.out] at HS3
              have HJ4 := hide (HS3.out.cutA (m := m) (by rw [Br.wl_len]; exact hRL) (by omega))
              generalize (Br.prl ps n).getD x 0 = old at co
              clear hj3 hk3 HEN HJI HS3 HJ2 HKI hcx
              go_wp2
              go_roundw
              case rel => exact ⟨k + 1, R, _, _, rfl, by go_num, by omega, HN, by rw [hRL]; exact HJ4⟩
              case measure => simp [intOf]; omega
            | false =>
              rw [hmt] at HEN
              have HFX : Hid (Br.fd (Br.mt l) k W = Br.fd (Br.mt l) k R) := hide (by rw [HFD.out, Br.fd, hmt]; rfl)
              have HAR := hide (show W = (A ++ [x]) ++ R from by rw [hAR]; simp)
              generalize hRL : R.length = m at *
              generalize hWL : W.length = mW at *
              clear HFD hAR hAA HA hxp hmt
              go_wp2_with fail
              refine HEN.out.mono ?_
              rintro e w3 ⟨rfl, hk3⟩
              have HKN := hide (KO.on HKI.out hk3)
              clear hk3 HEN HJI HKI hcx
              go_wp2
              go_roundw
              case rel => exact ⟨A ++ [x], R, by rw [hRL], HAR.out, HFX, HKN⟩
              case measure => simp [intOf]
    · obtain rfl : k = n := by omega
      have hne : ¬ ((k : Int) < (k : Int)) := by omega
      have HPS : Hid (Br.F (Br.kd l t) (Br.mt l) k = ps) := hide (by unfold Br.F; rw [HA.out])
      have HR0 : Hid (RO w g0 k ps 0 (.slice none 0 0) wr) := hide ⟨HJ.out.bel, World.ownsRow_nil _ _ _ _, HJ.out.ob⟩
      clear HJ HA
      go_wp2
      have hPQ : Br.PP l t = Br.PSk (Br.pr ps) k := by rw [HPP.out, HPS.out]
      have HPQ := hide hPQ
      clear hPQ
      go_loopw [11, 12] (fun s11 s12 wr => ∃ (i : Nat) (vo : Value), vo = s11 ∧ s12 = .int .i64 (i : Int) ∧ i ≤ k ∧ Hid (RO w g0 k ps i vo wr)) (fun _ s12 _ => k - (intOf s12).toNat)
      case atStart => exact ⟨0, _, rfl, rfl, Nat.zero_le _, HR0⟩
      case round =>
        rename World => wq
        obtain ⟨i, vo, hvo, rfl, hi, HR⟩ := hrel
        subst hvo
        clear HR0
        by_cases hin : i < k
        · have hin' : (i : Int) < (k : Int) := by omega
          have ci := owns_cell HR.out.par i hin
          rw [Br.prl_at ps hin] at ci
          have HSU := hide (Br.PSk_succ (Br.pr ps) i)
          have hpl := Br.PSk_len (Br.pr ps) i
          obtain ⟨ao, co, eo, hco⟩ := owns_form HR.out.out
          by_cases hp : 0 < Br.pr ps i
          · have HS2 : Hid (Br.PSk (Br.pr ps) (i + 1) = Br.PSk (Br.pr ps) i ++ [(i, Br.pr ps i)]) := hide (by rw [HSU.out, if_pos hp])
            generalize Br.pr ps i = q at *
            have hp' : (0 : Int) < (q : Int) := by omega
            have ca := (Below.cell ((Below.refl wq.heap.size wq)) (p := ⟨g0, i, none⟩) (by exact (HR.out.par.lt g0 rfl).2)).trans ci
            clear HSU ca
            go_wp2_with (at_builtin; refine wpList_append_two wq rfl _ _ 25 rfl w.heap.size 42 ip _ Tryd.underlying25 HIP.out HZ0.out HZ1.out HZ2.out rfl vo (Br.PSk (Br.pr ps) i).length (flat2 (Br.PSk (Br.pr ps) i)) rfl (.int .i64 (i : Int)) (.int .i64 (q : Int)) HR.out.out _ rfl rfl (by simp [Value.oneCell']) (by omega) HR.out.bel.size ?_; intro v' w' ho' hg'; have HR2 : Hid (RO w g0 k ps (i + 1) v' w') := hide ⟨Below.grown (KO.alloc HR.out.bel _) hg' (by simp; have := HR.out.bel.size; omega) (fun j hj => (HR.out.out.lt j hj).1), by rw [HS2.out, List.length_append, flat2_snoc]; exact ho', (HR.out.par.alloc _).kept hg' (owns_apart HR.out.par HR.out.out (by decide))⟩; clear ho' hg')
            go_roundw
            case rel => exact ⟨i + 1, _, rfl, by go_num, by omega, HR2⟩
            case measure => simp [intOf]; omega
          · have HS2 : Hid (Br.PSk (Br.pr ps) (i + 1) = Br.PSk (Br.pr ps) i) := hide (by rw [HSU.out, if_neg hp, List.append_nil])
            have HR2 : Hid (RO w g0 k ps (i + 1) vo wq) := hide ⟨HR.out.bel, by rw [HS2.out]; exact HR.out.out, HR.out.par⟩
            have hp' : ¬ (0 : Int) < (Br.pr ps i : Int) := by omega
            generalize Br.pr ps i = q at *
            clear HSU HR
            go_wp2
            go_roundw
            case rel => exact ⟨i + 1, _, rfl, by go_num, by omega, HR2⟩
            case measure => simp [intOf]; omega
        · obtain rfl : i = k := by omega
          have hne9 : ¬ ((i : Int) < (i : Int)) := by omega
          obtain ⟨ao, co, eo, hpo⟩ := pairs_of_owns HR.out.out
          subst eo
          have HPO := hide hpo
          have HBE := hide HR.out.bel
          have HFR := hide (fun b o (hb : ao = some ⟨b, o, none⟩) => show w.heap.size ≤ b from (HR.out.out.lt b (by rw [hb]; rfl)).1)
          clear hpo HR
          go_wp2
          go_ret2
          exact ⟨ao, co, by rw [HPQ.out]; rfl, by rw [HPQ.out]; exact HPO.out, HBE.out, HFR.out⟩
end Go.Proofs.YtkkmifpdhcdkpaaDoor
