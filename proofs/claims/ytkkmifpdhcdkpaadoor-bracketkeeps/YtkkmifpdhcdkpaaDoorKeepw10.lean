/- BracketKeeps: its walk. -/
import Derived.Test.YtkkmifpdhcdkpaaDoorKeeps10
import Derived.Deep.RegionHeld3
namespace Go.Proofs.YtkkmifpdhcdkpaaDoor
open Go.RowKit
set_option linter.unusedVariables false
set_option maxHeartbeats 8000000
set_option maxRecDepth 100000
theorem idx2 (x y : Int) (w : World) : (Instr.index 42 (.agg #[.int .i64 x, .int .i64 y]) (.int .i64 0)).run Tryd.prog w = .ok (.int .i64 x) w ∧ (Instr.index 42 (.agg #[.int .i64 x, .int .i64 y]) (.int .i64 1)).run Tryd.prog w = .ok (.int .i64 y) w := by
  obtain ⟨i5, hi, _⟩ := info_parts infoInt
  exact ⟨run_index_arr w .i64 _ 0 _ Tryd.underlying42 hi cellsInt plainInt (by omega) rfl, run_index_arr w .i64 _ 1 _ Tryd.underlying42 hi cellsInt plainInt (by omega) rfl⟩
theorem BracketKeeps_walk (w : World) (hm : Marks w) (a0 : Option Addr) (n0 c0 : Nat) (l : List Int) (h0 : Row .i32 w a0 n0 c0 l) (f0 : ∀ x ∈ l, (Lit.int .i32 x).wf = true) (b0 : n0 * 4 ≤ 140737488351232)
    (a1 : Option Addr) (n1 c1 : Nat) (was : List Int) (h1 : Row .i64 w a1 n1 c1 was) (f1 : ∀ x ∈ was, (Lit.int .i64 x).wf = true) (b1 : n1 * 8 ≤ 140737488351232)
    (a2 : Option Addr) (n2 c2 : Nat) (t : List Int) (h2 : Row .i64 w a2 n2 c2 t) (f2 : ∀ x ∈ t, (Lit.int .i64 x).wf = true) (b2 : n2 * 8 ≤ 140737488351232)
    (lv : Int) (wf1 : (Lit.int .i64 lv).wf = true) (s : Int) (wf2 : (Lit.int .i64 s).wf = true) :
    Calls Tryd.prog 6 #[.agg #[.slice a0 n0 c0, .slice a1 n1 c1, .slice a2 n2 c2], .int .i64 lv, .int .i64 s] w fun e w' => e = .returned (.bool true) ∧ Below w.heap.size w w' := by
  obtain ⟨W0, hW0⟩ : ∃ W0, w.alloc (.cells #[.slice a0 n0 c0, .slice a1 n1 c1, .slice a2 n2 c2] 36) = W0 := ⟨_, rfl⟩
  have hk0 : KO w W0 := by rw [← hW0]; exact KO.alloc (KO.refl _) _
  have hbx : W0.heap[w.heap.size]? = some (.cells #[.slice a0 n0 c0, .slice a1 n1 c1, .slice a2 n2 c2] 36 (0, 0)) := by rw [← hW0]; exact heap_alloc_last w _
  have hs0 : w.heap.size < W0.heap.size := by rw [← hW0]; simp
  have HBX := hide (fun (X : World) (hk : KO W0 X) => show X.cell? ⟨w.heap.size, 0, none⟩ = some (.slice a0 n0 c0) ∧ X.cell? ⟨w.heap.size, 1, none⟩ = some (.slice a1 n1 c1) ∧ X.cell? ⟨w.heap.size, 2, none⟩ = some (.slice a2 n2 c2) from
    ⟨cell_of_block ((hk.block _ hs0).trans hbx) rfl, cell_of_block ((hk.block _ hs0).trans hbx) rfl, cell_of_block ((hk.block _ hs0).trans hbx) rfl⟩)
  have HW := hide (works10_any W0 (hm.below hk0))
  have HM := hide (hm.below hk0)
  have H0 := hide (h0.below hk0)
  have H1 := hide (h1.below hk0)
  have H2 := hide (h2.below hk0)
  have HF := hide f0
  have HK0 := hide hk0
  have hl0 := h0.len
  have hl1 := h1.len
  have hl2 := h2.len
  have HSZ := hide hs0
  clear hm h0 h1 h2 f0 f1 f2 wf1 wf2 hk0 hbx hs0
  go_enter Tryd.func6, Tryd.ntmps6
  go_wp2_with fail
  refine HW.out.mono ?_
  rintro e w1 ⟨rfl, hk1⟩
  have HK1 := hide hk1
  obtain ⟨x0, x1, x2⟩ := HBX.out w1 hk1
  clear hW0 hk1 HW
  by_cases hbig : 2000 < n0
  · have hbig' : (2000 : Int) < (n0 : Int) := by omega
    go_wp2
    go_ret
    exact ⟨rfl, KO.on HK0.out HK1.out⟩
  · have hbig' : ¬ (2000 : Int) < (n0 : Int) := by omega
    have HRS := hide (resolve_any a0 a1 a2 n0 n1 n2 c0 c1 c2 l was t lv s w1 (H0.out.below HK1.out) (H1.out.below HK1.out) (H2.out.below HK1.out) HF.out (HM.out.below HK1.out) b2)
    by_cases hA : Br.Arg l.length was.length t.length lv s
    rotate_left 1
    · rw [Br.RA_arg hA] at HRS
      clear hA
      go_wp2_with fail
      refine HRS.out.mono ?_
      rintro e w2 ⟨ar, cr, rfl, hr, hk2⟩
      have HE := hide (KO.on HK0.out (KO.on HK1.out hk2))
      clear hr hk2
      go_wp2
      go_ret
      exact ⟨rfl, HE.out⟩
    · by_cases hF : t.all Br.may = true
      rotate_left 1
      · rw [Br.RA_form hA (by simpa using hF)] at HRS
        clear hA hF
        go_wp2_with fail
        refine HRS.out.mono ?_
        rintro e w2 ⟨ar, cr, rfl, hr, hk2⟩
        have HE := hide (KO.on HK0.out (KO.on HK1.out hk2))
        clear hr hk2
        go_wp2
        go_ret
        exact ⟨rfl, HE.out⟩
      · rw [Br.RA_ok hA hF] at HRS
        obtain ⟨⟨q1, q2⟩, _, _⟩ := hA
        rw [hl0, hl2] at q1
        rw [hl1, hl2] at q2
        subst q1
        subst q2
        obtain ⟨kf1, kf2, kf3⟩ := Br.keep_facts (l := l) (was := was) (t := t) (lv := lv) (s := s) (by omega) (by omega)
        have hAL : (Br.rs was (Br.es lv) s t (Br.PP l t)).length = n1 := by rw [Br.rs_len, hl2]
        rw [hl2] at kf2
        have HPL : Hid (∀ j, j < (Br.PP l t).length → ((Br.PP l t).getD j (0, 0)).1 < ((Br.PP l t).getD j (0, 0)).2 ∧ ((Br.PP l t).getD j (0, 0)).2 < n1) := hide fun j hj => by have := Br.PP_lt hj; rw [hl0] at this; exact this
        have HTP : Hid (∀ j, j < (Br.PP l t).length → (Br.PP l t).take (j + 1) = (Br.PP l t).take j ++ [(Br.PP l t).getD j (0, 0)]) := hide fun j hj => Br.take_pair hj
        have HTA : Hid ((Br.PP l t).take (Br.PP l t).length = Br.PP l t) := hide (List.take_of_length_le (Nat.le_refl _))
        have HPR := hide (fun W (hk : KO W0 W) => pairs_ok a0 a2 n1 c0 c2 l t W (H0.out.below hk) (H2.out.below hk) HF.out (HM.out.below hk) b2)
        generalize Br.rs was (Br.es lv) s t (Br.PP l t) = A at *
        generalize Br.PP l t = PS at *
        have HKF1 := hide kf1
        have HKF2 := hide kf2
        have HKF3 := hide kf3
        have HAL := hide hAL
        have HWL := hide hl1
        have HTL := hide hl2
        clear kf1 kf2 kf3 hF hl0 hl1 hl2
        obtain ⟨ii, hii, hy0, hy1, hy2⟩ := info_parts infoInt
        have HII := hide hii
        have HY0 := hide hy0
        have HY1 := hide hy1
        have HY2 := hide hy2
        clear hii hy0 hy1 hy2
        go_wp2_with fail
        refine HRS.out.mono ?_
        rintro e w2 ⟨ar, cr, rfl, hr, hk2⟩
        simp only at hr ⊢
        rw [hAL] at hr ⊢
        have HRA := hide hr
        have HK2 := hide (KO.on HK1.out hk2)
        obtain ⟨y0, y1, y2⟩ := HBX.out w2 HK2.out
        have hcr := hr.le
        have hcm := hr.max
        unfold maxLen at hcm
        clear hr hk2 HRS x0 x1 x2 hAL
        go_wp2_with fail
        refine (HPR.out w2 HK2.out).mono ?_
        rintro e w3 ⟨ap, cp, rfl, hp3, hk3⟩
        have HPP := hide hp3
        have HK3 := hide (KO.on HK2.out hk3)
        have HRA3 := hide (HRA.out.below hk3)
        obtain ⟨z0, z1, z2⟩ := HBX.out w3 HK3.out
        have hpm := hp3.max
        have hpl := hp3.le
        unfold maxLen at hpm
        generalize hPN : PS.length = pn at *
        clear hp3 hk3 HPR y0 y1 y2 HRA
        go_wp2_with (at_make; refine wpList_make_full _ rfl _ _ 23 rfl w3.heap.size 3 ii (.int .i64 0) 1 Tryd.underlying23 HII.out HY0.out HY1.out _ _ _ _ n1 rfl rfl rfl rfl ?b2 ?b3 (Nat.le_refl _) ?_)
        case b2 => rw [HY2.out]; omega
        case b3 => unfold maxLen; omega
        intro w4 hown hgrow
        have hbel := (Below.refl w3.heap.size w3).grown hgrow (Nat.le_refl _) (fun _ h => by cases h)
        have HO : Hid (OW w3.heap.size w3.heap.size n1 n1 (Br.fr was n1 (PS.take 0)) w3 w4) := hide (by
          refine ⟨?_, hbel⟩
          have e : (madeCells #[Value.int .i64 0] n1).toList = (Br.fr was n1 (PS.take 0)).map (Value.int .i64) := by
            rw [List.take_zero]
            simp [Br.fr, toList_madeCells_one]
          rw [← e]
          simpa using hown)
        clear hown hgrow hbel z0 z1 z2
        go_wp2
        generalize hG : w3.heap.size = g at HO
        have HG := hide hG
        clear hG
        go_loopw [66] (fun v wr => ∃ j : Nat, v = .int .i64 (j : Int) ∧ j ≤ pn ∧ Hid (OW w3.heap.size g n1 n1 (Br.fr was n1 (PS.take j)) w3 wr)) (fun v _ => pn - (intOf v).toNat)
        case atStart => exact ⟨0, rfl, Nat.zero_le _, by have h9 := HO.out; rw [HG.out]; exact h9⟩
        case round =>
          obtain ⟨j, rfl, hj, HJ⟩ := hrel
          clear HO
          by_cases hjn : j < pn
          · have hjn' : (j : Int) < (pn : Int) := by omega
            obtain ⟨b, eb, hb, hc⟩ := (HPP.out.below HJ.out.bel).cells (by omega)
            obtain ⟨t0, t1⟩ := hc j hjn
            subst eb
            obtain ⟨k1, k2⟩ := HPL.out j hjn
            have hA3 := HKF1.out j hjn
            have HSN : Hid (Br.fr was n1 (PS.take (j + 1)) = Br.two was (Br.fr was n1 (PS.take j)) 1 (PS.getD j (0, 0))) := hide (by rw [HTP.out j hjn, Br.fr_snoc])
            generalize Br.fr was n1 (PS.take j) = F at *
            generalize PS.getD j (0, 0) = pp at *
            obtain ⟨x, y⟩ := pp
            simp only at t0 t1 k1 k2 hA3
            obtain ⟨g0, g1⟩ := cells2 wr (.int .i64 (x : Int)) (.int .i64 (y : Int)) 42
            have hbw : Below wr.heap.size wr (wr.alloc (.cells #[.int .i64 (x : Int), .int .i64 (y : Int)] 42)) := (Below.refl _ _).alloc (Nat.le_refl _) _
            have HO1 := hide (HJ.out.keep hbw)
            have HGL := hide (show g < wr.heap.size from (HJ.out.own.lt _ rfl).2)
            have HBK := hide (show (wr.alloc (.cells #[.int .i64 (x : Int), .int .i64 (y : Int)] 42)).heap[wr.heap.size]? = some (.cells #[.int .i64 (x : Int), .int .i64 (y : Int)] 42 (0, 0)) from heap_alloc_last wr _)
            have hid := fun W => (idx2 (x : Int) (y : Int) W).1
            have hid1 := fun W => (idx2 (x : Int) (y : Int) W).2
            clear hc hb hbw
            generalize hX : wr.alloc (.cells #[.int .i64 (x : Int), .int .i64 (y : Int)] 42) = X at HO1 HBK g0 g1
            go_wp2_with (first
              | (with_reducible refine at_store { dst := none, op := .store 42 _ _, type := _, pos := _, after := _, guard := none } ?_; refine wpList_store_new wr rfl 42 _ _ rfl rfl #[.int .i64 0, .int .i64 0] #[.int .i64 (x : Int), .int .i64 (y : Int)] rfl rfl (two_info two64 _ _) rfl (two_one64 _ _) ?_))
            clear hX t0 t1 g0 g1
            go_loopw [71] (fun v wi => ∃ q : Nat, v = .int .i64 (q : Int) ∧ q ≤ 2 ∧ Hid (OW w3.heap.size g n1 n1 (Br.gq was F x y q) w3 wi) ∧ Hid (wi.heap[wr.heap.size]? = some (.cells #[.int .i64 (x : Int), .int .i64 (y : Int)] 42 (0, 0)))) (fun v _ => 2 - (intOf v).toNat)
            case atStart => exact ⟨0, rfl, by omega, HO1, HBK⟩
            case round =>
              rename World => wi
              obtain ⟨q, rfl, hq, HQ, HQB⟩ := hrel
              clear HO1 HBK
              by_cases hq2 : q < 2
              · have hq2' : (q : Int) < 2 := by omega
                have HGS := hide (Br.gq_step was F x y q hq2)
                have hix : (Instr.index 42 (.agg #[.int .i64 (x : Int), .int .i64 (y : Int)]) (.int .i64 (q : Int))).run Tryd.prog wi = .ok (.int .i64 (Br.pl x y q : Int)) wi := by
                  have h2 : q = 0 ∨ q = 1 := by omega
                  rcases h2 with rfl | rfl
                  · exact hid wi
                  · exact hid1 wi
                have hpl1 : Br.pl x y q < n1 := by unfold Br.pl; split <;> omega
                generalize Br.pl x y q = p at *
                generalize Br.gq was F x y q = G at *
                have hp' : (p : Int) < (n1 : Int) := by omega
                have c0 := HQ.out.cell hpl1
                have f0 := HQ.out.own.frozenAt p
                have HQ1 := hide (HQ.out.set p 1)
                rw [Br.setR_one] at HQ1
                have HQB1 := hide ((set_other wi g p wr.heap.size (.int .i64 1) (by have := HGL.out; omega)).trans HQB.out)
                generalize G.getD p 0 = old at c0
                clear HQ HQB
                go_wp2
                generalize hW9 : wi.setCell ⟨g, p, none⟩ (.int .i64 1) = W9 at *
                clear hW9 c0 f0 hix
                go_loopw [16] (fun v wk => ∃ k : Nat, v = .int .i64 (k : Int) ∧ p + 1 ≤ k ∧ k ≤ n1 ∧ Hid (Br.nx was (p + 1) = Br.nx was k) ∧ Hid (OW w3.heap.size g n1 n1 (Br.setR G 1 p k) w3 wk) ∧ Hid (wk.heap[wr.heap.size]? = some (.cells #[.int .i64 (x : Int), .int .i64 (y : Int)] 42 (0, 0)))) (fun v _ => n1 - (intOf v).toNat)
                case atStart => exact ⟨p + 1, by go_num, Nat.le_refl _, by omega, hide rfl, HQ1, HQB1⟩
                case round =>
                  rename World => wk
                  obtain ⟨k, rfl, hk1, hk2, HN, HO, HB⟩ := hrel
                  clear HQ1 HQB1
                  have xs1 := (HBX.out wk (KO.on HK3.out HO.out.bel)).2.1
                  by_cases hkn : k < n1
                  · have hkn' : (k : Int) < (n1 : Int) := by omega
                    obtain ⟨bw, ow, ew, hbw, hcw⟩ := (H1.out.below (KO.on HK3.out HO.out.bel)).cells (by omega)
                    have gk := hcw k (by rw [HWL.out]; exact hkn)
                    subst ew
                    clear hcw hbw
                    by_cases h9 : was.getD k 0 = 9
                    · have HN2 : Hid (Br.nx was (p + 1) = Br.nx was (k + 1)) := hide (by rw [HN.out]; exact Br.nx_more (by rw [HWL.out]; exact hkn) h9)
                      rw [h9] at gk
                      have ck := HO.out.cell hkn
                      have fk := HO.out.own.frozenAt k
                      have HO2 := hide (HO.out.set k 1)
                      rw [Br.setR_snoc _ _ _ _ (by omega)] at HO2
                      have HB2 := hide ((set_other wk g k wr.heap.size (.int .i64 1) (by have := HGL.out; omega)).trans HB.out)
                      clear HN h9 HO HB
                      generalize (Br.setR G 1 p k).getD k 0 = old2 at ck
                      go_wp2
                      go_roundw
                      case rel => exact ⟨k + 1, by go_num, by omega, by omega, HN2, HO2, HB2⟩
                      case measure => simp [intOf]; omega
                    · have HX2 : Hid (Br.gq was F x y (q + 1) = Br.setR G 1 p k) := hide (by rw [HGS.out]; show Br.setR G 1 p (Br.nx was (p + 1)) = _; rw [HN.out, Br.nx_stop (fun h => h9 h.2)])
                      have h9b : (was.getD k 0 == 9) = false := beq_false_of_ne h9
                      clear HN h9
                      generalize was.getD k 0 = v9 at *
                      go_wp2
                      go_roundw
                      case rel => exact ⟨q + 1, by go_num, by omega, by rw [HX2.out]; exact HO, HB⟩
                      case measure => simp [intOf]; omega
                  · obtain rfl : k = n1 := by omega
                    have hne : ¬ ((k : Int) < (k : Int)) := by omega
                    have HX2 : Hid (Br.gq was F x y (q + 1) = Br.setR G 1 p k) := hide (by rw [HGS.out]; show Br.setR G 1 p (Br.nx was (p + 1)) = _; rw [HN.out, Br.nx_stop (fun h => by have := h.1; have := HWL.out; omega)])
                    clear HN
                    go_wp2
                    go_roundw
                    case rel => exact ⟨q + 1, by go_num, by omega, by rw [HX2.out]; exact HO, HB⟩
                    case measure => simp [intOf]; omega
              · obtain rfl : q = 2 := by omega
                have r0 : wi.cell? ⟨wr.heap.size, 0, none⟩ = some (.int .i64 (x : Int)) := cell_of_block HQB.out rfl
                obtain ⟨ba, oa, ea, hba, hca⟩ := (HRA3.out.below HQ.out.bel).cells (by omega)
                have ga := hca x (by rw [HAL.out]; omega)
                subst ea
                have hxn : (x : Int) < (n1 : Int) := by omega
                have HN : Hid (OW w3.heap.size g n1 n1 (Br.fr was n1 (PS.take (j + 1))) w3 wi) := hide (by rw [HSN.out]; exact HQ.out)
                clear hca hba HQ HQB
                generalize A.getD x 0 = ax at *
                rcases hA3 with rfl | rfl | rfl
                all_goals
                  go_wp2
                  go_roundw
                  case rel => exact ⟨j + 1, by go_num, by omega, HN⟩
                  case measure => simp [intOf]; omega
          · obtain rfl : j = pn := by omega
            have hne : ¬ ((j : Int) < (j : Int)) := by omega
            rw [HTA.out] at HJ
            go_wp2
            go_loopw [122] (fun v wq => ∃ (i nq : Nat), v = .int .i64 (i : Int) ∧ i ≤ n1 ∧ wq = wr.drewN nq) (fun v _ => n1 - (intOf v).toNat)
            case atStart => exact ⟨0, 0, rfl, Nat.zero_le _, rfl⟩
            case round =>
              obtain ⟨i, nq, rfl, hi, rfl⟩ := hrel
              by_cases hin : i < n1
              · have hin' : (i : Int) < (n1 : Int) := by omega
                have cf := HJ.out.cell hin
                have HKW := hide (KO.on HK3.out HJ.out.bel)
                have x2 := (HBX.out wr HKW.out).2.2
                obtain ⟨ba, oa, ea, _, hca⟩ := (HRA3.out.below HJ.out.bel).cells (by omega)
                obtain ⟨bt, ot, et, _, hct⟩ := (H2.out.below HKW.out).cells (by omega)
                have ga := hca i (by rw [HAL.out]; exact hin)
                have gt := hct i (by rw [HTL.out]; exact hin)
                subst ea
                subst et
                clear hca hct HKW
                by_cases hz : (Br.fr was n1 PS).getD i 0 = 0
                · have hAT := HKF2.out i hz
                  rw [hz] at cf
                  rw [hAT] at ga
                  clear hAT hz
                  generalize t.getD i 0 = ti at *
                  go_wp2
                  go_quiet (fail)
                  go_wp2
                  go_roundw
                  case rel => exact ⟨i + 1, _, by go_num, by omega, by first | rfl | exact World.drewN_drewN _ _ _⟩
                  case measure => simp [intOf]; omega
                · generalize (Br.fr was n1 PS).getD i 0 = fi at *
                  have hzb : (fi == 0) = false := beq_false_of_ne hz
                  generalize t.getD i 0 = ti at *
                  generalize A.getD i 0 = ai at *
                  go_wp2
                  go_quiet (fail)
                  go_wp2
                  go_roundw
                  case rel => exact ⟨i + 1, _, by go_num, by omega, by first | rfl | exact World.drewN_drewN _ _ _⟩
                  case measure => simp [intOf]; omega
              · obtain rfl : i = n1 := by omega
                have hne2 : ¬ ((i : Int) < (i : Int)) := by omega
                have HKV := hide (show Below w3.heap.size w3 (wr.drewN nq) from HJ.out.bel.trans ((below_drewN wr nq).mono (by have := HJ.out.own.lt g rfl; omega)))
                clear HJ hin
                go_wp2
                generalize hV : wr.drewN nq = V at *
                clear hV
                go_loopw [145] (fun v wz => ∃ q : Nat, v = .int .i64 (q : Int) ∧ q ≤ j ∧ Hid (Below w3.heap.size w3 wz)) (fun v _ => j - (intOf v).toNat)
                case atStart => exact ⟨0, rfl, Nat.zero_le _, HKV⟩
                case round =>
                  rename World => wz
                  obtain ⟨q, rfl, hq, HZ⟩ := hrel
                  clear HKV
                  by_cases hqj : q < j
                  · have hqj' : (q : Int) < (j : Int) := by omega
                    obtain ⟨b, eb, hb, hc⟩ := (HPP.out.below HZ.out).cells (by omega)
                    obtain ⟨t0, t1⟩ := hc q hqj
                    subst eb
                    obtain ⟨k1, k2⟩ := HPL.out q hqj
                    have hA3 := HKF3.out q hqj
                    generalize PS.getD q (0, 0) = pp at *
                    obtain ⟨x, y⟩ := pp
                    simp only at t0 t1 k1 k2 hA3
                    obtain ⟨g0, g1⟩ := cells2 wz (.int .i64 (x : Int)) (.int .i64 (y : Int)) 42
                    have hbk : (wz.alloc (.cells #[.int .i64 (x : Int), .int .i64 (y : Int)] 42)).heap[wz.heap.size]? = some (.cells #[.int .i64 (x : Int), .int .i64 (y : Int)] 42 (0, 0)) := heap_alloc_last wz _
                    have hkX : KO wz (wz.alloc (.cells #[.int .i64 (x : Int), .int .i64 (y : Int)] 42)) := KO.alloc (KO.refl _) _
                    have hsX : wz.heap.size < (wz.alloc (.cells #[.int .i64 (x : Int), .int .i64 (y : Int)] 42)).heap.size := by simp
                    generalize hX : wz.alloc (.cells #[.int .i64 (x : Int), .int .i64 (y : Int)] 42) = X at g0 g1 hbk hkX hsX
                    have hsz3 : w3.heap.size ≤ wz.heap.size := HZ.out.size
                    have HX3 := hide (show Below w3.heap.size w3 X from HZ.out.trans (hkX.mono hsz3))
                    have HMK := hide (fun (W : World) (hk : KO X W) => marked_any a0 a1 a2 i i i c0 c1 c2 x y was W (H1.out.below (KO.on HK3.out (HX3.out.trans (hk.mono (by have := HX3.out.size; omega))))) (by omega) (by omega))
                    obtain ⟨ba, oa, ea, _, hca⟩ := (HRA3.out.below HX3.out).cells (by omega)
                    have gx := hca x (by rw [HAL.out]; omega)
                    have gy := hca y (by rw [HAL.out]; omega)
                    subst ea
                    have HAC := hide (fun (W : World) (hk : KO X W) => show W.cell? ⟨ba, oa + x, none⟩ = some (.int .i64 (A.getD x 0)) ∧ W.cell? ⟨ba, oa + y, none⟩ = some (.int .i64 (A.getD y 0)) ∧ W.cell? ⟨wz.heap.size, 0, none⟩ = some (.int .i64 (x : Int)) ∧ W.cell? ⟨wz.heap.size, 1, none⟩ = some (.int .i64 (y : Int)) ∧ W.cell? ⟨w.heap.size, 0, none⟩ = some (.slice a0 i c0) ∧ W.cell? ⟨w.heap.size, 1, none⟩ = some (.slice a1 i c1) ∧ W.cell? ⟨w.heap.size, 2, none⟩ = some (.slice a2 i c2) from by
                      have hb1 := World.block_lt_of_cell? X (u := .int .i64 (A.getD x 0)) (a := ⟨ba, oa + x, none⟩) gx
                      have hb2 := HBX.out W (KO.on HK3.out (HX3.out.trans (hk.mono (by have := HX3.out.size; omega))))
                      exact ⟨(Below.cell hk (by exact hb1)).trans gx, (Below.cell hk (by exact hb1)).trans gy, cell_of_block ((hk.block _ hsX).trans hbk) rfl, cell_of_block ((hk.block _ hsX).trans hbk) rfl, hb2⟩)
                    have hxi : (x : Int) < (i : Int) := by omega
                    have hyi : (y : Int) < (i : Int) := by omega
                    have HA3 := hide hA3
                    clear hc hb hbk gx gy hca hA3
                    go_wp2_with (first
                      | (with_reducible refine at_store { dst := none, op := .store 42 _ _, type := _, pos := _, after := _, guard := none } ?_; refine wpList_store_new wz rfl 42 _ _ rfl rfl #[.int .i64 0, .int .i64 0] #[.int .i64 (x : Int), .int .i64 (y : Int)] rfl rfl (two_info two64 _ _) rfl (two_one64 _ _) ?_))
                    rw [hX]
                    clear hX t0 t1 g0 g1 hkX hsX
                    have m0 : ∀ W, KO X W → W.cell? ⟨ba, oa + x, none⟩ = some (.int .i64 (A.getD x 0)) := fun W hk => (HAC.out W hk).1
                    have m1 : ∀ W, KO X W → W.cell? ⟨ba, oa + y, none⟩ = some (.int .i64 (A.getD y 0)) := fun W hk => (HAC.out W hk).2.1
                    have m2 : ∀ W, KO X W → W.cell? ⟨wz.heap.size, 0, none⟩ = some (.int .i64 (x : Int)) := fun W hk => (HAC.out W hk).2.2.1
                    have m3 : ∀ W, KO X W → W.cell? ⟨wz.heap.size, 1, none⟩ = some (.int .i64 (y : Int)) := fun W hk => (HAC.out W hk).2.2.2.1
                    have m4 : ∀ W, KO X W → W.cell? ⟨w.heap.size, 0, none⟩ = some (.slice a0 i c0) := fun W hk => (HAC.out W hk).2.2.2.2.1
                    have m5 : ∀ W, KO X W → W.cell? ⟨w.heap.size, 1, none⟩ = some (.slice a1 i c1) := fun W hk => (HAC.out W hk).2.2.2.2.2.1
                    have m6 : ∀ W, KO X W → W.cell? ⟨w.heap.size, 2, none⟩ = some (.slice a2 i c2) := fun W hk => (HAC.out W hk).2.2.2.2.2.2
                    have hK : KO X X := KO.refl _
                    have hKd : KO X X.drew := KO.drew hK
                    have HW3 := hide (fun (W : World) (hk : KO X W) => show Below w3.heap.size w3 W from HX3.out.trans (hk.mono (by have := HX3.out.size; omega)))
                    clear HAC
                    cases hmk : (was.getD x 0 == 9 || was.getD y 0 == 9) with
                    | true =>
                      rw [hmk] at HMK
                      clear HA3 hmk
                      generalize A.getD x 0 = ax at *
                      generalize A.getD y 0 = ay at *
                      refine wp_region_noPanic ?_
                      refine wp_region_held_drew (S := fun w' => KO X w') (by kernel_rfl) hKd (fun hHeld => ?_)
                      refine wpAnyH_take (i := 0) (oi := { dst := some 149, op := _, type := _, pos := _, after := _, guard := none }) (v := .agg #[.slice a0 i c0, .slice a1 i c1, .slice a2 i c2]) rfl (by kernel_rfl) (by kernel_rfl) (by kernel_rfl) (fun _ _ _ h => h) (Or.inl ⟨by rfl, ?_⟩) (by assumption) ?_
                      · intro wy hSw
                        try dsimp only at hSw
                        go_simp
                      simp only [Act.put, List.setIfInBounds_toArray, List.set_cons_zero, List.set_cons_succ]
                      refine wpAnyH_take (i := 1) (oi := { dst := some 150, op := _, type := _, pos := _, after := _, guard := none }) (v := .agg #[.int .i64 (x : Int), .int .i64 (y : Int)]) rfl (by kernel_rfl) (by kernel_rfl) (by kernel_rfl) (fun _ _ _ h => h) (Or.inl ⟨by rfl, ?_⟩) (by assumption) ?_
                      · intro wy hSw
                        try dsimp only at hSw
                        go_simp
                      simp only [Act.put, List.setIfInBounds_toArray, List.set_cons_zero, List.set_cons_succ]
                      refine wpAnyH_ready (rs := [2]) (by kernel_rfl) (by simp) ?_
                      refine AllReadyH.cons rfl (fun K hKK => ?_) AllReadyH.nil
                      go_simp
                      go_wp2_with (first
                        | (go_at_call 19; refine (HMK.out _ (by assumption)).mono ?_; rintro e w7 ⟨rfl, hk7⟩; have hk7' : KO X w7 := KO.on (by assumption) hk7))
                      refine hKK.out _ _ hk7' (fun hHeld2 => ?_)
                      clear hKK hHeld
                      refine wpAnyH_take (i := 3) (oi := { dst := some 152, op := _, type := _, pos := _, after := _, guard := none }) (v := .bool false) rfl (by kernel_rfl) (by kernel_rfl) (by kernel_rfl) (fun _ _ _ h => h) (Or.inl ⟨by rfl, ?_⟩) (by assumption) ?_
                      · intro wy hSw
                        try dsimp only at hSw
                        go_simp
                      simp only [Act.put, List.setIfInBounds_toArray, List.set_cons_zero, List.set_cons_succ]
                      refine wpAnyH_take (i := 4) (oi := { dst := some 153, op := _, type := _, pos := _, after := _, guard := none }) (v := .bool false) rfl (by kernel_rfl) (by kernel_rfl) (by kernel_rfl) (fun _ _ _ h => h) (Or.inl ⟨by rfl, ?_⟩) (by assumption) ?_
                      · intro wy hSw
                        try dsimp only at hSw
                        go_simp
                      simp only [Act.put, List.setIfInBounds_toArray, List.set_cons_zero, List.set_cons_succ]
                      refine wpAnyH_take (i := 5) (oi := { dst := some 154, op := _, type := _, pos := _, after := _, guard := some (4, true) }) (v := undef) rfl (by kernel_rfl) (by kernel_rfl) (by kernel_rfl) (fun _ _ _ h => h) (Or.inr ⟨by rfl, rfl⟩) (by assumption) ?_
                      simp only [Act.put, List.setIfInBounds_toArray, List.set_cons_zero, List.set_cons_succ]
                      refine wpAnyH_take (i := 6) (oi := { dst := some 155, op := _, type := _, pos := _, after := _, guard := some (4, true) }) (v := undef) rfl (by kernel_rfl) (by kernel_rfl) (by kernel_rfl) (fun _ _ _ h => h) (Or.inr ⟨by rfl, rfl⟩) (by assumption) ?_
                      simp only [Act.put, List.setIfInBounds_toArray, List.set_cons_zero, List.set_cons_succ]
                      refine wpAnyH_take (i := 7) (oi := { dst := some 156, op := _, type := _, pos := _, after := _, guard := some (4, true) }) (v := undef) rfl (by kernel_rfl) (by kernel_rfl) (by kernel_rfl) (fun _ _ _ h => h) (Or.inr ⟨by rfl, rfl⟩) (by assumption) ?_
                      simp only [Act.put, List.setIfInBounds_toArray, List.set_cons_zero, List.set_cons_succ]
                      refine wpAnyH_take (i := 8) (oi := { dst := some 157, op := _, type := _, pos := _, after := _, guard := some (4, true) }) (v := undef) rfl (by kernel_rfl) (by kernel_rfl) (by kernel_rfl) (fun _ _ _ h => h) (Or.inr ⟨by rfl, rfl⟩) (by assumption) ?_
                      simp only [Act.put, List.setIfInBounds_toArray, List.set_cons_zero, List.set_cons_succ]
                      refine wpAnyH_take (i := 9) (oi := { dst := some 158, op := _, type := _, pos := _, after := _, guard := some (4, true) }) (v := undef) rfl (by kernel_rfl) (by kernel_rfl) (by kernel_rfl) (fun _ _ _ h => h) (Or.inr ⟨by rfl, rfl⟩) (by assumption) ?_
                      simp only [Act.put, List.setIfInBounds_toArray, List.set_cons_zero, List.set_cons_succ]
                      refine wpAnyH_take (i := 10) (oi := { dst := some 159, op := _, type := _, pos := _, after := _, guard := some (4, true) }) (v := undef) rfl (by kernel_rfl) (by kernel_rfl) (by kernel_rfl) (fun _ _ _ h => h) (Or.inr ⟨by rfl, rfl⟩) (by assumption) ?_
                      simp only [Act.put, List.setIfInBounds_toArray, List.set_cons_zero, List.set_cons_succ]
                      refine wpAnyH_take (i := 11) (oi := { dst := some 160, op := _, type := _, pos := _, after := _, guard := some (4, true) }) (v := undef) rfl (by kernel_rfl) (by kernel_rfl) (by kernel_rfl) (fun _ _ _ h => h) (Or.inr ⟨by rfl, rfl⟩) (by assumption) ?_
                      simp only [Act.put, List.setIfInBounds_toArray, List.set_cons_zero, List.set_cons_succ]
                      refine wpAnyH_take (i := 12) (oi := { dst := some 161, op := _, type := _, pos := _, after := _, guard := some (4, true) }) (v := undef) rfl (by kernel_rfl) (by kernel_rfl) (by kernel_rfl) (fun _ _ _ h => h) (Or.inr ⟨by rfl, rfl⟩) (by assumption) ?_
                      simp only [Act.put, List.setIfInBounds_toArray, List.set_cons_zero, List.set_cons_succ]
                      refine wpAnyH_take (i := 13) (oi := { dst := some 162, op := _, type := _, pos := _, after := _, guard := some (4, true) }) (v := undef) rfl (by kernel_rfl) (by kernel_rfl) (by kernel_rfl) (fun _ _ _ h => h) (Or.inr ⟨by rfl, rfl⟩) (by assumption) ?_
                      simp only [Act.put, List.setIfInBounds_toArray, List.set_cons_zero, List.set_cons_succ]
                      refine wpAnyH_take (i := 14) (oi := { dst := some 163, op := _, type := _, pos := _, after := _, guard := some (4, true) }) (v := undef) rfl (by kernel_rfl) (by kernel_rfl) (by kernel_rfl) (fun _ _ _ h => h) (Or.inr ⟨by rfl, rfl⟩) (by assumption) ?_
                      simp only [Act.put, List.setIfInBounds_toArray, List.set_cons_zero, List.set_cons_succ]
                      refine wpAnyH_take (i := 15) (oi := { dst := some 164, op := _, type := _, pos := _, after := _, guard := some (4, true) }) (v := undef) rfl (by kernel_rfl) (by kernel_rfl) (by kernel_rfl) (fun _ _ _ h => h) (Or.inr ⟨by rfl, rfl⟩) (by assumption) ?_
                      simp only [Act.put, List.setIfInBounds_toArray, List.set_cons_zero, List.set_cons_succ]
                      refine wpAnyH_take (i := 16) (oi := { dst := some 165, op := _, type := _, pos := _, after := _, guard := none }) (v := .bool false) rfl (by kernel_rfl) (by kernel_rfl) (by kernel_rfl) (fun _ _ _ h => h) (Or.inl ⟨by rfl, ?_⟩) (by assumption) ?_
                      · intro wy hSw
                        try dsimp only at hSw
                        go_simp
                      simp only [Act.put, List.setIfInBounds_toArray, List.set_cons_zero, List.set_cons_succ]
                      refine wpAnyH_done (by kernel_rfl) ?_ _
                      refine NoPanic.normal ?_
                      have HZ7 := hide (HW3.out w7 hk7')
                      clear hk7 hk7' m0 m1 m2 m3 m4 m5 m6 hK hKd HMK hHeld2
                      go_wp2
                      go_roundw
                      case rel => exact ⟨q + 1, by go_num, by omega, HZ7⟩
                      case measure => simp [intOf]; omega
                    | false =>
                      rw [hmk] at HMK
                      have hA4 : A.getD x 0 = A.getD y 0 := by
                        simp only [Bool.or_eq_false_iff, beq_eq_false_iff_ne] at hmk
                        exact HA3.out hmk.1 hmk.2
                      rw [hA4] at m0
                      clear HA3 hmk hA4
                      generalize A.getD y 0 = ay at *
                      refine wp_region_noPanic ?_
                      go_region_held (fun w' => KO X w') (first | assumption)
                        (first
                          | (go_at_call 19; refine (HMK.out _ (by assumption)).mono ?_; rintro e w7 ⟨rfl, hk7⟩; have hk7' : KO X w7 := KO.on (by assumption) hk7))
                      all_goals
                        refine NoPanic.normal ?_
                        have HZ7 := hide (HW3.out w7 hk7')
                        clear hk7 hk7' m0 m1 m2 m3 m4 m5 m6 hK hKd HMK
                        go_wp2
                        go_roundw
                        case rel => exact ⟨q + 1, by go_num, by omega, HZ7⟩
                        case measure => simp [intOf]; omega
                  · obtain rfl : q = j := by omega
                    have hne3 : ¬ ((q : Int) < (q : Int)) := by omega
                    have HE := hide (KO.on HK0.out (KO.on HK3.out HZ.out))
                    go_wp2
                    go_ret
                    exact ⟨rfl, HE.out⟩
end Go.Proofs.YtkkmifpdhcdkpaaDoor
