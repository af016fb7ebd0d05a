/- The program's Runs, by contract. -/
import Derived.Test.YtchpdokjalbpnaaDoorRn13
import Derived.Test.YtchpdokjalbpnaaDoorCn13
namespace Go.Proofs.YtchpdokjalbpnaaDoor
open Go.RowKit
set_option linter.unusedVariables false
set_option maxHeartbeats 700000
set_option maxRecDepth 100000
theorem one_new (w : World) (v : Value) (t : TypeId) : ∀ j u, ([v] : List Value)[j]? = some u → (w.alloc (.cells #[v] t)).cell? ((⟨w.heap.size, 0, none⟩ : Addr).add j) = some u := by
  intro j u hj
  match j, hj with
  | 0, hj =>
    simp at hj
    subst hj
    rw [add_zero0, World.cell?_alloc_mark]
    rfl
  | j + 1, hj => simp at hj
theorem runs_bad (ao : Option Addr) (n cap : Nat) (l : List Int) (w : World) (h : Row .i64 w ao n cap l) (hf : ¬ Od.Fo l) :
    Calls Tryd.prog 19 #[.slice ao n cap] w fun e w' => e = .returned (.tuple #[.slice none 0 0, .int .i64 2]) ∧ w = w' := by
  have HA := hide (order_bad ao n cap l w h hf)
  clear h hf
  go_enter Tryd.func19, Tryd.ntmps19
  go_wp2_with (go_at_call 15; refine HA.out.mono ?_; rintro e w' ⟨rfl, rfl⟩)
  go_ret2
  exact ⟨rfl, rfl⟩
theorem OD_getD_lt {l : List Int} (hf : Od.Fo l) {k : Nat} (hk : k < (Od.OD l).length) : (Od.OD l).getD k 0 < l.length := Od.OD_lt hf (Od.OD_in hk)
theorem runs_ok (ao : Option Addr) (n cap : Nat) (l : List Int) (w : World) (h : Row .i64 w ao n cap l) (hf : Od.Fo l) (hn : n * 8 ≤ 281474976702464) (K : Nat) (hK : (Od.RR l).length ≤ K) (hKN : K * 24 ≤ 140737488355328) :
    Calls Tryd.prog 19 #[.slice ao n cap] w fun e w' => ∃ a c, e = .returned (.tuple #[.slice a (Od.RR l).length c, .int .i64 0]) ∧ RL w' a c (Od.RR l) ∧ KO w w' := by
  have HO := hide (order_ok ao n cap l w h hf (by omega))
  have H := hide h
  have HL := hide h.len
  have HF := hide hf
  have HON := hide (Od.ON_len l)
  have HLT := hide (fun k (hk : k < (Od.OD l).length) => OD_getD_lt hf hk)
  have HPC := hide (fun b e => Od.pc_Z (Od.OD l) (b := b) (e := e))
  have HZ := hide (show Od.ON l = Od.Z (Od.OD l) from rfl)
  have hLn : (Od.OD l).length ≤ 35184372087808 := by
    have := Od.K_le l
    have h2 := Od.OD_len l
    rw [h.len] at this
    omega
  have HMO := hide (fun e (he : e ≤ (Od.OD l).length) => Nat.le_trans (Od.rows_all l he) hK)
  have HRR := hide (show Od.RR l = Od.rows l (Od.OD l) (Od.OD l).length from rfl)
  obtain ⟨jj, hjj, hz0, hz1, hz2⟩ := info_parts infoInts13
  have HJJ : Hid (Tryd.prog.info? 26 = some jj) := hjj
  have HZ0 := hide hz0
  have HZ1 := hide hz1
  have HZ2 := hide hz2
  obtain ⟨ii, hii, _⟩ := info_parts infoInt
  have HII : Hid (Tryd.prog.info? 3 = some ii) := hii
  clear h hf hjj hz0 hz1 hz2 hii hK
  generalize hOD : Od.OD l = od at *
  have HOD := hide hOD
  clear hOD
  obtain ⟨m, hm⟩ : ∃ m, od.length = m := ⟨_, rfl⟩
  rw [hm] at hLn
  have HM := hide hm
  rw [hm] at HO HLT HRR HMO
  clear hm
  go_enter Tryd.func19, Tryd.ntmps19
  go_wp2_with (go_at_call 15; refine HO.out.mono ?_; rintro e w1 ⟨v1, rfl, ho1, hk1⟩; obtain ⟨ap, cp, ev, hp⟩ := row_of_owns ho1; subst ev; have HP := hide hp; have K1 := hide hk1; clear ho1 hk1 hp HO)
  go_loopw [6, 7, 8] (fun s6 s7 s8 W => ∃ (va : Value) (b : Nat), va = s6 ∧ s7 = .int .i64 (b : Int) ∧ b ≤ m ∧ Hid ((Od.rn l od b).2 = b) ∧ Hid (∃ vs, LR w1.heap.size W va vs (Od.rows l od b)) ∧ Hid (KO w1 W)) (fun _ s7 _ _ => m - (intOf s7).toNat)
  case atStart => exact ⟨_, 0, rfl, rfl, Nat.zero_le _, hide rfl, hide ⟨[], LR.begin _ _⟩, hide (KO.refl w1)⟩
  case round =>
    obtain ⟨va, b, hva, rfl, hb, hrn, hlr, hkw⟩ := hrel
    subst hva
    by_cases hlt : b < m
    · have hin : (b : Int) < (m : Int) := by omega
      go_wp2
      go_loopw [8] (fun s8 W => ∃ e : Nat, s8 = .int .i64 (e : Int) ∧ b < e ∧ e ≤ m ∧ Hid (∀ k, b ≤ k → k < e → l.getD (od.getD k 0) 0 = l.getD (od.getD b 0) 0) ∧ Hid (∃ vs, LR w1.heap.size W va vs (Od.rows l od b)) ∧ Hid (KO w1 W)) (fun s8 _ => m - (intOf s8).toNat)
      case atStart => exact ⟨b + 1, by go_num, by omega, by omega, hide (fun k h1 h2 => by rw [show k = b by omega]), hlr, hkw⟩
      case round =>
        clear hlr hkw
        obtain ⟨e, rfl, hbe, hem, hall, hlr, hkw⟩ := hrel
        have hrun : Hid ((e = od.length ∨ ¬ l.getD (od.getD e 0) 0 = l.getD (od.getD b 0) 0) → Od.rows l od e = Od.rows l od b ++ [Od.Z (Od.pc od (b, e))] ∧ (Od.rn l od e).2 = e) := hide (fun q => Od.rows_cut hbe (by rw [HM.out]; exact hem) hrn.out (fun k h1 h2 => by rw [hall.out (k + 1) (by omega) h2, hall.out k h1 (by omega)]) (by
          rcases q with q | q
          · exact .inl q
          · exact .inr (by rw [hall.out (e - 1) (by omega) (by omega)]; exact q)))
        by_cases hlt2 : e < m
        · have hin2 : (e : Int) < (m : Int) := by omega
          obtain ⟨bp, op, rfl, hbp, hcp⟩ := HP.out.cells (by omega)
          have hxe := HLT.out e hlt2
          have hxb := HLT.out b hlt
          rw [HL.out] at hxe hxb
          obtain ⟨bl, ol, rfl, hbl, hcl⟩ := H.out.cells (by omega)
          have KW := hide (KO.on K1.out hkw.out)
          have zl : ∀ k, k < m → (Od.ON l).getD k 0 = (od.getD k 0 : Int) := fun k hk => by rw [HZ.out]; exact Od.Z_at od (by rw [HM.out]; exact hk)
          have c1 := (Below.cell hkw.out (by exact hbp)).trans (hcp e (by rw [HON.out, HM.out]; exact hlt2))
          have c2 := (Below.cell hkw.out (by exact hbp)).trans (hcp b (by rw [HON.out, HM.out]; exact hlt))
          rw [zl e hlt2] at c1
          rw [zl b hlt] at c2
          have c3 := (Below.cell KW.out (by exact hbl)).trans (hcl (od.getD e 0) (by rw [HL.out]; exact hxe))
          have c4 := (Below.cell KW.out (by exact hbl)).trans (hcl (od.getD b 0) (by rw [HL.out]; exact hxb))
          have hxe2 : ((od.getD e 0 : Nat) : Int) < (n : Int) := by omega
          have hxb2 : ((od.getD b 0 : Nat) : Int) < (n : Int) := by omega
          clear hcp hcl zl
          by_cases heq : l.getD (od.getD e 0) 0 = l.getD (od.getD b 0) 0
          · have HA : Hid (∀ k, b ≤ k → k < e + 1 → l.getD (od.getD k 0) 0 = l.getD (od.getD b 0) 0) := hide (fun k h1 h2 => by
              by_cases ek : k = e
              · rw [ek]; exact heq
              · exact hall.out k h1 (by omega))
            rw [heq] at c3
            clear hall hrun heq
            generalize l.getD (od.getD b 0) 0 = y at c3 c4 HA ⊢
            generalize od.getD e 0 = xe at *
            generalize od.getD b 0 = xb at *
            have hyy : (y == y) = true := by simp
            go_wp2_with fail
            go_quiet (fail)
            go_wp2
            go_roundw
            case rel =>
              refine ⟨e + 1, by go_num, by omega, by omega, HA, hide ?_, hide (KO.on hkw.out (below_of_drewN ⟨_, rfl⟩))⟩
              obtain ⟨vs, hvs⟩ := hlr.out
              exact ⟨vs, hvs.below (below_of_drewN ⟨_, rfl⟩)⟩
            case measure => simp [intOf]; omega
          · have HR2 := hide (hrun.out (.inr heq))
            have hne : (l.getD (od.getD e 0) 0 == l.getD (od.getD b 0) 0) = false := beq_eq_false_iff_ne.2 heq
            clear hall hrun heq
            generalize l.getD (od.getD b 0) 0 = y at c4 hne
            generalize l.getD (od.getD e 0) 0 = y2 at c3 hne
            generalize od.getD e 0 = xe at *
            generalize od.getD b 0 = xb at *
            go_wp2_with fail
            go_quiet (fail)
            have K4 := hide (KO.on hkw.out (below_drewN wr nq))
            have hlr4 : ∃ vs, LR w1.heap.size (wr.drewN nq) va vs (Od.rows l od b) := by obtain ⟨vs, hvs⟩ := hlr.out; exact ⟨vs, hvs.below (below_drewN wr nq)⟩
            clear hlr hkw c1 c2 c3 c4 hne
            generalize wr.drewN nq = w4 at *
            obtain ⟨vs, hvs⟩ := hlr4
            have hNb : (Od.rows l od b).length + 1 ≤ K := by
              have h1 := HMO.out e hem
              rw [HR2.out.1, List.length_append, List.length_singleton] at h1
              exact h1
            obtain ⟨N, hN⟩ : ∃ N, (Od.rows l od b).length = N := ⟨_, rfl⟩
            have hoa := hvs.oa
            rw [hN] at hoa hNb
            obtain ⟨a6, c6, hva, _⟩ := owns_form hoa
            subst hva
            have hP4 := HP.out.below K4.out
            have hple := hP4.le
            have hmid := fun W => run_mid (P := Tryd.prog) Tryd.underlying26 HII.out cellsInt (some ⟨bp, op, none⟩) m cp b e (by omega) (by omega) W
            have HCL := hide (clone_any (tl (some ⟨bp, op, none⟩) cp b) (e - b) (cp - b) _ w4 ((hP4.drop (j := b) (by omega)).take (e := e - b) (by omega)) (by omega))
            have hpc : ((Od.ON l).drop b).take (e - b) = Od.Z (Od.pc od (b, e)) := by rw [HPC.out b e, HZ.out]
            rw [hpc] at HCL
            have hrl : (Od.Z (Od.pc od (b, e))).length = e - b := by rw [← hpc, List.length_take, List.length_drop, HON.out, HM.out]; omega
            have HVS := hide hvs
            have HRL := hide hrl
            have HNN := hide hN
            clear hvs hoa hP4 hpc hrl hN
            go_wp2_with fail
            refine HCL.out.mono ?_
            rintro e5 w5 ⟨u, rfl, hu5, hk5⟩
            obtain ⟨au, cu, hu, _⟩ := owns_form hu5
            subst hu
            have hs4 := K4.out.size
            have HU6 := hide ((owns_below hu5 (KO.alloc (KO.refl w5) (.cells #[.slice au (e - b) cu] 26))))
            have HV6 := hide ((HVS.out.below hk5).below (KO.alloc (KO.refl w5) (.cells #[.slice au (e - b) cu] 26)))
            have K6 := hide (KO.on K4.out (KO.on hk5 (KO.alloc (KO.refl w5) (.cells #[.slice au (e - b) cu] 26))))
            have HOA := hide (show (w5.alloc (.cells #[.slice au (e - b) cu] 26)).ownsRow w1.heap.size 26 1 (.slice a6 N c6) N vs from by have := HV6.out.oa; rw [HNN.out] at this; exact this)
            have hs6 : w1.heap.size ≤ (w5.alloc (.cells #[.slice au (e - b) cu] 26)).heap.size := K6.out.size
            clear hu5 hk5 HCL HVS
            go_wp2_with (at_builtin; refine wpList_append_own _ rfl (.tmp 46) (.tmp 52) 42 rfl w1.heap.size 26 jj (.slice none 0 0) 1 24 Tryd.underlying42 HJJ.out HZ0.out HZ1.out HZ2.out rfl (by decide) (.slice a6 N c6) N vs rfl HOA.out ⟨w5.heap.size, 0, none⟩ 1 1 [.slice au (e - b) cu] rfl rfl (one_new w5 _ _) (by simp [Value.oneCell']) (by unfold maxLen; omega) (by omega) hs6 ?_; intro v7 w7 ho7 hg7 _)
            have hown7 : w7.ownsRow w1.heap.size 26 1 v7 ((Od.rows l od b).length + 1) (vs ++ [.slice au (e - b) cu]) := by rw [HNN.out]; exact ho7
            have HL7 := hide (HV6.out.push (r := Od.Z (Od.pc od (b, e))) (by rw [HRL.out]; exact owns_mono HU6.out hs4) hown7 hg7)
            have K7 := hide (show KO w1 w7 from Below.grown K6.out hg7 K6.out.size (fun j hj => (HOA.out.lt j hj).1))
            rw [← HR2.out.1] at HL7
            have HRN := hide HR2.out.2
            clear hown7 ho7 hg7 HU6 HV6 HOA hs6
            go_wp2
            go_roundw
            case rel => exact ⟨_, e, rfl, by first | rfl | go_num, hem, HRN, hide ⟨_, HL7.out⟩, K7⟩
            case measure => simp [intOf]; omega
        · obtain rfl : m = e := by omega
          have hne2 : ¬ (m : Int) < (m : Int) := by omega
          have HR2 := hide (hrun.out (.inl HM.out.symm))
          clear hall hrun
          go_wp2_with fail
          go_quiet (fail)
          have K4 := hide (KO.on hkw.out (below_drewN wr nq))
          have hlr4 : ∃ vs, LR w1.heap.size (wr.drewN nq) va vs (Od.rows l od b) := by obtain ⟨vs, hvs⟩ := hlr.out; exact ⟨vs, hvs.below (below_drewN wr nq)⟩
          clear hlr hkw
          generalize wr.drewN nq = w4 at *
          obtain ⟨vs, hvs⟩ := hlr4
          have hNb : (Od.rows l od b).length + 1 ≤ K := by
            have h1 := HMO.out m (Nat.le_refl _)
            rw [HR2.out.1, List.length_append, List.length_singleton] at h1
            exact h1
          obtain ⟨N, hN⟩ : ∃ N, (Od.rows l od b).length = N := ⟨_, rfl⟩
          have hoa := hvs.oa
          rw [hN] at hoa hNb
          obtain ⟨a6, c6, hva, _⟩ := owns_form hoa
          subst hva
          have hP4 := HP.out.below K4.out
          have hple := hP4.le
          have hmid := fun W => run_mid (P := Tryd.prog) Tryd.underlying26 HII.out cellsInt ap m cp b m (by omega) (by omega) W
          have HCL := hide (clone_any (tl ap cp b) (m - b) (cp - b) _ w4 ((hP4.drop (j := b) (by omega)).take (e := m - b) (by omega)) (by omega))
          have hpc : ((Od.ON l).drop b).take (m - b) = Od.Z (Od.pc od (b, m)) := by rw [HPC.out b m, HZ.out]
          rw [hpc] at HCL
          have hrl : (Od.Z (Od.pc od (b, m))).length = m - b := by rw [← hpc, List.length_take, List.length_drop, HON.out, HM.out]; omega
          have HVS := hide hvs
          have HRL := hide hrl
          have HNN := hide hN
          clear hvs hoa hP4 hpc hrl hN
          go_wp2_with fail
          refine HCL.out.mono ?_
          rintro e5 w5 ⟨u, rfl, hu5, hk5⟩
          obtain ⟨au, cu, hu, _⟩ := owns_form hu5
          subst hu
          have hs4 := K4.out.size
          have HU6 := hide ((owns_below hu5 (KO.alloc (KO.refl w5) (.cells #[.slice au (m - b) cu] 26))))
          have HV6 := hide ((HVS.out.below hk5).below (KO.alloc (KO.refl w5) (.cells #[.slice au (m - b) cu] 26)))
          have K6 := hide (KO.on K4.out (KO.on hk5 (KO.alloc (KO.refl w5) (.cells #[.slice au (m - b) cu] 26))))
          have HOA := hide (show (w5.alloc (.cells #[.slice au (m - b) cu] 26)).ownsRow w1.heap.size 26 1 (.slice a6 N c6) N vs from by have := HV6.out.oa; rw [HNN.out] at this; exact this)
          have hs6 : w1.heap.size ≤ (w5.alloc (.cells #[.slice au (m - b) cu] 26)).heap.size := K6.out.size
          clear hu5 hk5 HCL HVS
          go_wp2_with (at_builtin; refine wpList_append_own _ rfl (.tmp 46) (.tmp 52) 42 rfl w1.heap.size 26 jj (.slice none 0 0) 1 24 Tryd.underlying42 HJJ.out HZ0.out HZ1.out HZ2.out rfl (by decide) (.slice a6 N c6) N vs rfl HOA.out ⟨w5.heap.size, 0, none⟩ 1 1 [.slice au (m - b) cu] rfl rfl (one_new w5 _ _) (by simp [Value.oneCell']) (by unfold maxLen; omega) (by omega) hs6 ?_; intro v7 w7 ho7 hg7 _)
          have hown7 : w7.ownsRow w1.heap.size 26 1 v7 ((Od.rows l od b).length + 1) (vs ++ [.slice au (m - b) cu]) := by rw [HNN.out]; exact ho7
          have HL7 := hide (HV6.out.push (r := Od.Z (Od.pc od (b, m))) (by rw [HRL.out]; exact owns_mono HU6.out hs4) hown7 hg7)
          have K7 := hide (show KO w1 w7 from Below.grown K6.out hg7 K6.out.size (fun j hj => (HOA.out.lt j hj).1))
          rw [← HR2.out.1] at HL7
          have HRN := hide HR2.out.2
          clear hown7 ho7 hg7 HU6 HV6 HOA hs6
          go_wp2
          go_roundw
          case rel => exact ⟨_, m, rfl, by first | rfl | go_num, hem, HRN, hide ⟨_, HL7.out⟩, K7⟩
          case measure => simp [intOf]; omega
    · obtain rfl : m = b := by omega
      have hne : ¬ (m : Int) < (m : Int) := by omega
      obtain ⟨vs, hvs⟩ := hlr.out
      obtain ⟨a6, c6, hva, hrd⟩ := hvs.read
      subst hva
      have HRD := hide (show RL wr a6 c6 (Od.RR l) from by rw [HRR.out]; exact hrd)
      have hlen : (Od.rows l od m).length = (Od.RR l).length := by rw [HRR.out]
      obtain ⟨N, hN⟩ : ∃ N, (Od.RR l).length = N := ⟨_, rfl⟩
      rw [hlen, hN]
      have HN := hide hN
      clear hvs hrd hlr hlen hN
      go_wp2
      go_ret2
      refine ⟨a6, c6, ?_, HRD.out, KO.on K1.out hkw.out⟩
      rw [HN.out]
      rfl
/-- What Runs answers. -/
def RA (l : List Int) (R : List (List Int)) (E : Int) : Prop := (Od.Fo l ∧ R = Od.RR l ∧ E = 0) ∨ (¬ Od.Fo l ∧ R = [] ∧ E = 2)
theorem RA_some (l : List Int) : ∃ L R E, OA l L E ∧ RA l R E ∧ R.flatten = L := by
  by_cases h : Od.Fo l
  · exact ⟨_, _, _, .inl ⟨h, rfl, rfl⟩, .inl ⟨h, rfl, rfl⟩, Od.RR_flat l⟩
  · exact ⟨_, _, _, .inr ⟨h, rfl, rfl⟩, .inr ⟨h, rfl, rfl⟩, rfl⟩
theorem RL_nil (w : World) : RL w none 0 [] := ⟨Nat.le_refl _, Nat.zero_le _, fun j hj => by simp at hj⟩
theorem runs_any (ao : Option Addr) (n cap : Nat) (l : List Int) (w : World) (h : Row .i64 w ao n cap l) (hn : n ≤ 100000) (R : List (List Int)) (E : Int) (hA : RA l R E) :
    Calls Tryd.prog 19 #[.slice ao n cap] w fun e w' => ∃ a c, e = .returned (.tuple #[.slice a R.length c, .int .i64 E]) ∧ RL w' a c R ∧ KO w w' := by
  rcases hA with hA | hA
  · obtain ⟨hf, hR, hE⟩ := hA
    subst hE
    have hO := runs_ok ao n cap l w h hf (by omega) n (Nat.le_trans (Od.rows_le l _ _) (by rw [Od.OD_len, ← h.len]; exact Od.K_le l)) (by omega)
    rw [← hR] at hO
    exact hO
  · obtain ⟨hf, hR, hE⟩ := hA
    subst hE hR
    refine (runs_bad ao n cap l w h hf).mono ?_
    rintro e w' ⟨e0, e1⟩
    exact ⟨none, 0, e0, RL_nil _, by rw [← e1]; exact KO.refl _⟩
end Go.Proofs.YtchpdokjalbpnaaDoor
