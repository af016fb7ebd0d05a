/- The document's Runs, by contract. -/
import Derived.Test.YtanoifkegfalgaaRu13
import Derived.Test.YtanoifkegfalgaaRg13
namespace Go.Proofs.Ytanoifkegfalgaa
open Go.RowKit
set_option linter.unusedVariables false
set_option maxHeartbeats 1000000
set_option maxRecDepth 100000
/-- A list of pieces of what lay there. -/
structure LS (w1 w : World) (v : Value) (vs : List Value) (rows : List (List Int)) : Prop where
  oa : w.ownsRow w1.heap.size 22 1 v rows.length vs
  rows : ∀ j, j < rows.length → ∃ a c, vs[j]? = some (.slice a (rows.getD j []).length c) ∧ Row .i64 w1 a (rows.getD j []).length c (rows.getD j [])
theorem LS.begin (w : World) : LS w w (.slice none 0 0) [] [] := ⟨World.ownsRow_nil _ _ _ _, fun j hj => by simp at hj⟩
theorem LS.below {w1 w w' : World} {v : Value} {vs : List Value} {rows : List (List Int)} (h : LS w1 w v vs rows) (hb : KO w w') : LS w1 w' v vs rows := ⟨owns_below h.oa hb, h.rows⟩
theorem LS.push {w1 w w' : World} {v v' : Value} {a : Option Addr} {c : Nat} {vs : List Value} {rows : List (List Int)} {r : List Int} (h : LS w1 w v vs rows) (hr : Row .i64 w1 a r.length c r) (ho : w'.ownsRow w1.heap.size 22 1 v' (rows.length + 1) (vs ++ [.slice a r.length c])) : LS w1 w' v' (vs ++ [.slice a r.length c]) (rows ++ [r]) := by
  have hl : vs.length = rows.length := by have := h.oa.1; simpa using this
  refine ⟨by simpa using ho, fun j hj => ?_⟩
  by_cases hj2 : j < rows.length
  · obtain ⟨x, y, h1, h2⟩ := h.rows j hj2
    have e : (rows ++ [r]).getD j [] = rows.getD j [] := by simp [List.getD, List.getElem?_append_left hj2]
    rw [e]
    exact ⟨x, y, by rw [List.getElem?_append_left (by omega)]; exact h1, h2⟩
  · obtain rfl : j = rows.length := by simp at hj; omega
    have e : (rows ++ [r]).getD rows.length [] = r := by simp [List.getD]
    rw [e]
    exact ⟨a, c, by rw [← hl]; simp, hr⟩
theorem LS.read {w1 w : World} {v : Value} {vs : List Value} {rows : List (List Int)} (h : LS w1 w v vs rows) (hk : KO w1 w) : ∃ a c, v = .slice a rows.length c ∧ RL w a c rows := by
  have hl : vs.length = rows.length := by have := h.oa.1; simpa using this
  rcases h.oa.2 with ⟨rfl, h0⟩ | ⟨g, cap, cur, rfl, hb, hg, hn, hc, hs, ht⟩
  · exact ⟨none, 0, by rw [h0], ⟨by omega, Nat.zero_le _, fun j hj => by omega⟩⟩
  · refine ⟨_, cap, rfl, ⟨hn, hc, fun j hj => ?_⟩⟩
    obtain ⟨a, c, h1, h2⟩ := h.rows j hj
    refine ⟨g, 0, a, c, rfl, (Array.getElem?_eq_some_iff.1 hg).1, ?_, h2.below hk⟩
    rw [Nat.zero_add, h.oa.cellAt j (by omega)]
    exact h1
theorem rows_step {lv : List Int} {l : List Nat} {k : Nat} (h : k + 1 = l.length ∨ ¬ lv.getD (l.getD (k + 1) 0) 0 = lv.getD (l.getD k 0) 0) : Od.rows lv l (k + 1) = Od.rows lv l k ++ [Od.Z (Od.pc l ((Od.rn lv l k).2, k + 1))] ∧ (Od.rn lv l (k + 1)).2 = k + 1 := by
  unfold Od.rows
  rw [Od.rn_cut h]
  simp
theorem rows_stay {lv : List Int} {l : List Nat} {k : Nat} (h : ¬ (k + 1 = l.length ∨ ¬ lv.getD (l.getD (k + 1) 0) 0 = lv.getD (l.getD k 0) 0)) : Od.rows lv l (k + 1) = Od.rows lv l k ∧ (Od.rn lv l (k + 1)).2 = (Od.rn lv l k).2 := by
  unfold Od.rows
  rw [Od.rn_on h]
  exact ⟨rfl, rfl⟩
theorem rruns_bad (ao : Option Addr) (n cap : Nat) (l : List Int) (w : World) (h : Row .i64 w ao n cap l) (hf : ¬ Od.Fo l) :
    Calls Try.prog 18 #[.slice ao n cap] w fun e w' => e = .returned (.tuple #[.slice none 0 0, .int .i64 2]) ∧ w = w' := by
  have HA := hide (rorder_bad ao n cap l w h hf)
  clear h hf
  go_enter Try.func18, Try.ntmps18
  go_wp2_with (go_at_call 14; refine HA.out.mono ?_; rintro e w' ⟨rfl, rfl⟩)
  go_ret2
  exact ⟨rfl, rfl⟩
theorem rruns_ok (ao : Option Addr) (n cap : Nat) (l : List Int) (w : World) (h : Row .i64 w ao n cap l) (hf : Od.Fo l) (hn : n ≤ 100000) :
    Calls Try.prog 18 #[.slice ao n cap] w fun e w' => ∃ a c, e = .returned (.tuple #[.slice a (Od.RR l).length c, .int .i64 0]) ∧ RL w' a c (Od.RR l) ∧ KO w w' := by
  have HO := hide (rorder_ok ao n cap l w h hf hn)
  rw [Od.ON_len] at HO
  have H := hide h
  have HL := hide h.len
  have HON := hide (Od.ON_len l)
  have HLT := hide (fun k (hk : k < (Od.OD l).length) => OD_getD_lt hf hk)
  have HPC := hide (fun b e => Od.pc_Z (Od.OD l) (b := b) (e := e))
  have HZ := hide (show Od.ON l = Od.Z (Od.OD l) from rfl)
  have hLn : (Od.OD l).length ≤ 100000 := by
    have := Od.K_le l
    have h2 := Od.OD_len l
    rw [h.len] at this
    omega
  have HRR := hide (show Od.RR l = Od.rows l (Od.OD l) (Od.OD l).length from rfl)
  obtain ⟨jj, hjj, hz0, hz1, hz2⟩ := info_parts infoInts13
  have HJJ : Hid (Try.prog.info? 22 = some jj) := hjj
  have HZ0 := hide hz0
  have HZ1 := hide hz1
  have HZ2 := hide hz2
  obtain ⟨ii, hii, _⟩ := info_parts infoInt
  have HII : Hid (Try.prog.info? 3 = some ii) := hii
  clear h hf hjj hz0 hz1 hz2 hii
  generalize Od.OD l = od at *
  obtain ⟨m, hm⟩ : ∃ m, od.length = m := ⟨_, rfl⟩
  rw [hm] at hLn
  have HM := hide hm
  rw [hm] at HO HLT HRR
  clear hm
  go_enter Try.func18, Try.ntmps18
  go_wp2_with (go_at_call 14; refine HO.out.mono ?_; rintro e w1 ⟨v1, rfl, ho1, hk1⟩; obtain ⟨ap, cp, ev, hp⟩ := row_of_owns ho1; subst ev; have HP := hide hp; have K1 := hide hk1; clear ho1 hk1 hp HO)
  go_loopw [6, 7, 8] (fun s6 s7 s8 W => ∃ (va : Value) (k fr : Nat), va = s6 ∧ s7 = .int .i64 (fr : Int) ∧ s8 = .int .i64 ((k : Int) + 1) ∧ k ≤ m ∧ fr ≤ k ∧ Hid ((Od.rn l od k).2 = fr) ∧ Hid (∃ vs, LS w1 W va vs (Od.rows l od k)) ∧ Hid (KO w1 W)) (fun _ _ s8 _ => m + 1 - (intOf s8).toNat)
  case atStart => exact ⟨_, 0, 0, rfl, rfl, rfl, Nat.zero_le _, Nat.le_refl _, hide rfl, hide ⟨[], LS.begin _⟩, hide (KO.refl w1)⟩
  case round =>
    obtain ⟨va, k, fr, hva, rfl, rfl, hk, hfr, hrn, hlr, hkw⟩ := hrel
    subst hva
    by_cases hlt : k < m
    · have hin : (k : Int) + 1 ≤ (m : Int) := by omega
      have ew : IntKind.i64.wrap ((k : Int) + 1 - 1) = (k : Int) := by rw [IntKind.wrap_i64]; omega
      have ew2 : (k : Int) + 1 - 1 = (k : Int) := by omega
      by_cases hlast : k + 1 = m
      · have hlb : ((k : Int) + 1 == (m : Int)) = true := by rw [beq_iff_eq]; omega
        have HR2 := hide (rows_step (lv := l) (l := od) (k := k) (.inl (by rw [HM.out]; exact hlast)))
        rw [hrn.out] at HR2
        go_wp2_with fail
        go_quiet (fail)
        have K4 := hide (KO.on hkw.out (below_drewN wr nq))
        have hlr4 : ∃ vs, LS w1 (wr.drewN nq) va vs (Od.rows l od k) := by obtain ⟨vs, hvs⟩ := hlr.out; exact ⟨vs, hvs.below (below_drewN wr nq)⟩
        clear hlr hkw
        generalize wr.drewN nq = w4 at *
        obtain ⟨vs, hvs⟩ := hlr4
        have hNb := Od.rows_le l od k
        obtain ⟨N, hN⟩ : ∃ N, (Od.rows l od k).length = N := ⟨_, rfl⟩
        have hoa := hvs.oa
        rw [hN] at hoa hNb
        obtain ⟨a6, c6, hva, _⟩ := owns_form hoa
        subst hva
        have hple := HP.out.le
        have hcast : (k : Int) + 1 = ((k + 1 : Nat) : Int) := by omega
        have hmid := fun W => run_mid (P := Try.prog) Try.underlying22 HII.out cellsInt ap m cp fr (k + 1) (by omega) (by omega) W
        rw [← hcast] at hmid
        have hpr := ((HP.out.drop (j := fr) (by omega)).take (e := k + 1 - fr) (by omega))
        have hpc : ((Od.ON l).drop fr).take (k + 1 - fr) = Od.Z (Od.pc od (fr, k + 1)) := by rw [HPC.out fr (k + 1), HZ.out]
        rw [hpc] at hpr
        have hrl := hpr.len
        rw [← hrl] at hpr hmid
        have HPR := hide hpr
        have HNN := hide hN
        have K6 := hide (KO.on K4.out (KO.alloc (KO.refl w4) (.cells #[.slice (tl ap cp fr) (Od.Z (Od.pc od (fr, k + 1))).length (cp - fr)] 22)))
        have HV6 := hide (hvs.below (KO.alloc (KO.refl w4) (.cells #[.slice (tl ap cp fr) (Od.Z (Od.pc od (fr, k + 1))).length (cp - fr)] 22)))
        have HOA := hide (hoa.alloc (.cells #[.slice (tl ap cp fr) (Od.Z (Od.pc od (fr, k + 1))).length (cp - fr)] 22))
        have hs6 := K6.out.size
        clear hvs hoa hpc hpr hN hrl hcast
        generalize hRW : Od.Z (Od.pc od (fr, k + 1)) = rw0 at *
        clear hRW
        go_wp2_with (at_builtin; refine wpList_append_own _ rfl (.tmp 45) (.tmp 50) 39 rfl w1.heap.size 22 jj (.slice none 0 0) 1 24 Try.underlying39 HJJ.out HZ0.out HZ1.out HZ2.out rfl (by decide) (.slice a6 N c6) N vs rfl HOA.out ⟨w4.heap.size, 0, none⟩ 1 1 [.slice (tl ap cp fr) rw0.length (cp - fr)] rfl rfl (one_new w4 _ _) (by simp [Value.oneCell']) (by unfold maxLen; omega) (by omega) hs6 ?_; intro v7 w7 ho7 hg7 _)
        have hown7 : w7.ownsRow w1.heap.size 22 1 v7 ((Od.rows l od k).length + 1) (vs ++ [.slice (tl ap cp fr) rw0.length (cp - fr)]) := by rw [HNN.out]; exact ho7
        have HL7 := hide (HV6.out.push HPR.out hown7)
        have K7 := hide (show KO w1 w7 from Below.grown K6.out hg7 K6.out.size (fun j hj => (HOA.out.lt j hj).1))
        rw [← HR2.out.1] at HL7
        have HRN := hide HR2.out.2
        clear hown7 ho7 hg7 HV6 HOA hs6
        go_wp2
        go_roundw
        case rel => exact ⟨_, k + 1, k + 1, rfl, by go_num, by go_num, by omega, Nat.le_refl _, HRN, hide ⟨_, HL7.out⟩, K7⟩
        case measure => simp [intOf]; omega
      · have hlb : ((k : Int) + 1 == (m : Int)) = false := by rw [beq_eq_false_iff_ne]; omega
        have hlt2 : k + 1 < m := by omega
        have hin2 : (k : Int) + 1 < (m : Int) := by omega
        have hin3 : (k : Int) < (m : Int) := by omega
        obtain ⟨bp, op, hap, hbp, hcp⟩ := HP.out.cells (by omega)
        subst hap
        have hxe := HLT.out (k + 1) hlt2
        have hxb := HLT.out k hlt
        rw [HL.out] at hxe hxb
        obtain ⟨bl, ol, hao, hbl, hcl⟩ := H.out.cells (by omega)
        subst hao
        have KW := hide (KO.on K1.out hkw.out)
        have zl : ∀ k, k < m → (Od.ON l).getD k 0 = (od.getD k 0 : Int) := fun k hk => by rw [HZ.out]; exact Od.Z_at od (by rw [HM.out]; exact hk)
        have c1 := (Below.cell hkw.out (by exact hbp)).trans (hcp (k + 1) (by rw [HON.out, HM.out]; exact hlt2))
        have c2 := (Below.cell hkw.out (by exact hbp)).trans (hcp k (by rw [HON.out, HM.out]; exact hlt))
        rw [zl (k + 1) hlt2] at c1
        rw [zl k hlt] at c2
        have c3 := (Below.cell KW.out (by exact hbl)).trans (hcl (od.getD (k + 1) 0) (by rw [HL.out]; exact hxe))
        have c4 := (Below.cell KW.out (by exact hbl)).trans (hcl (od.getD k 0) (by rw [HL.out]; exact hxb))
        have hxe2 : ((od.getD (k + 1) 0 : Nat) : Int) < (n : Int) := by omega
        have hxb2 : ((od.getD k 0 : Nat) : Int) < (n : Int) := by omega
        clear hcp hcl zl
        by_cases heq : l.getD (od.getD (k + 1) 0) 0 = l.getD (od.getD k 0) 0
        · have HR3 := hide (rows_stay (lv := l) (l := od) (k := k) (fun q => by
            rcases q with q | q
            · rw [HM.out] at q; exact hlast q
            · exact q heq))
          have hne : (l.getD (od.getD (k + 1) 0) 0 != l.getD (od.getD k 0) 0) = false := by rw [heq]; simp
          clear heq
          generalize l.getD (od.getD k 0) 0 = y at c4 hne
          generalize l.getD (od.getD (k + 1) 0) 0 = y2 at c3 hne
          generalize od.getD (k + 1) 0 = xe at c1 c3 hxe hxe2
          generalize od.getD k 0 = xb at c2 c4 hxb hxb2
          go_wp2_with fail
          go_quiet (fail)
          have hlr4 : ∃ vs, LS w1 (wr.drewN nq) va vs (Od.rows l od (k + 1)) := by
            obtain ⟨vs, hvs⟩ := hlr.out
            rw [HR3.out.1]
            exact ⟨vs, hvs.below (below_drewN wr nq)⟩
          have K4 := hide (KO.on hkw.out (below_drewN wr nq))
          have HLR4 := hide hlr4
          have HRN : Hid ((Od.rn l od (k + 1)).2 = fr) := hide (by rw [HR3.out.2]; exact hrn.out)
          clear hlr4 hlr c1 c2 c3 c4
          generalize wr.drewN nq = w4 at *
          go_wp2
          go_roundw
          case rel => exact ⟨_, k + 1, fr, rfl, rfl, by go_num, by omega, by omega, HRN, HLR4, K4⟩
          case measure => simp [intOf]; omega
        · have HR2 := hide (rows_step (lv := l) (l := od) (k := k) (.inr heq))
          rw [hrn.out] at HR2
          have hne : (l.getD (od.getD (k + 1) 0) 0 != l.getD (od.getD k 0) 0) = true := bne_iff_ne.2 heq
          clear heq
          generalize l.getD (od.getD k 0) 0 = y at c4 hne
          generalize l.getD (od.getD (k + 1) 0) 0 = y2 at c3 hne
          generalize od.getD (k + 1) 0 = xe at c1 c3 hxe hxe2
          generalize od.getD k 0 = xb at c2 c4 hxb hxb2
          go_wp2_with fail
          go_quiet (fail)
          clear c1 c2 c3 c4 hne
          have K4 := hide (KO.on hkw.out (below_drewN wr nq))
          have hlr4 : ∃ vs, LS w1 (wr.drewN nq) va vs (Od.rows l od k) := by obtain ⟨vs, hvs⟩ := hlr.out; exact ⟨vs, hvs.below (below_drewN wr nq)⟩
          clear hlr hkw
          generalize wr.drewN nq = w4 at *
          obtain ⟨vs, hvs⟩ := hlr4
          have hNb := Od.rows_le l od k
          obtain ⟨N, hN⟩ : ∃ N, (Od.rows l od k).length = N := ⟨_, rfl⟩
          have hoa := hvs.oa
          rw [hN] at hoa hNb
          obtain ⟨a6, c6, hva, _⟩ := owns_form hoa
          subst hva
          have hple := HP.out.le
          have hcast : (k : Int) + 1 = ((k + 1 : Nat) : Int) := by omega
          have hmid := fun W => run_mid (P := Try.prog) Try.underlying22 HII.out cellsInt (some ⟨bp, op, none⟩) m cp fr (k + 1) (by omega) (by omega) W
          rw [← hcast] at hmid
          have hpr := ((HP.out.drop (j := fr) (by omega)).take (e := k + 1 - fr) (by omega))
          have hpc : ((Od.ON l).drop fr).take (k + 1 - fr) = Od.Z (Od.pc od (fr, k + 1)) := by rw [HPC.out fr (k + 1), HZ.out]
          rw [hpc] at hpr
          have hrl := hpr.len
          rw [← hrl] at hpr hmid
          have HPR := hide hpr
          have HNN := hide hN
          have K6 := hide (KO.on K4.out (KO.alloc (KO.refl w4) (.cells #[.slice (tl (some ⟨bp, op, none⟩) cp fr) (Od.Z (Od.pc od (fr, k + 1))).length (cp - fr)] 22)))
          have HV6 := hide (hvs.below (KO.alloc (KO.refl w4) (.cells #[.slice (tl (some ⟨bp, op, none⟩) cp fr) (Od.Z (Od.pc od (fr, k + 1))).length (cp - fr)] 22)))
          have HOA := hide (hoa.alloc (.cells #[.slice (tl (some ⟨bp, op, none⟩) cp fr) (Od.Z (Od.pc od (fr, k + 1))).length (cp - fr)] 22))
          have hs6 := K6.out.size
          clear hvs hoa hpc hpr hN hrl hcast
          generalize hRW : Od.Z (Od.pc od (fr, k + 1)) = rw0 at *
          clear hRW
          go_wp2_with (at_builtin; refine wpList_append_own _ rfl (.tmp 45) (.tmp 50) 39 rfl w1.heap.size 22 jj (.slice none 0 0) 1 24 Try.underlying39 HJJ.out HZ0.out HZ1.out HZ2.out rfl (by decide) (.slice a6 N c6) N vs rfl HOA.out ⟨w4.heap.size, 0, none⟩ 1 1 [.slice (tl (some ⟨bp, op, none⟩) cp fr) rw0.length (cp - fr)] rfl rfl (one_new w4 _ _) (by simp [Value.oneCell']) (by unfold maxLen; omega) (by omega) hs6 ?_; intro v7 w7 ho7 hg7 _)
          have hown7 : w7.ownsRow w1.heap.size 22 1 v7 ((Od.rows l od k).length + 1) (vs ++ [.slice (tl (some ⟨bp, op, none⟩) cp fr) rw0.length (cp - fr)]) := by rw [HNN.out]; exact ho7
          have HL7 := hide (HV6.out.push HPR.out hown7)
          have K7 := hide (show KO w1 w7 from Below.grown K6.out hg7 K6.out.size (fun j hj => (HOA.out.lt j hj).1))
          rw [← HR2.out.1] at HL7
          have HRN := hide HR2.out.2
          clear hown7 ho7 hg7 HV6 HOA hs6
          go_wp2
          go_roundw
          case rel => exact ⟨_, k + 1, k + 1, rfl, by go_num, by go_num, by omega, Nat.le_refl _, HRN, hide ⟨_, HL7.out⟩, K7⟩
          case measure => simp [intOf]; omega
    · obtain rfl : m = k := by omega
      have hne : ¬ (m : Int) + 1 ≤ (m : Int) := by omega
      obtain ⟨vs, hvs⟩ := hlr.out
      obtain ⟨a6, c6, hva, hrd⟩ := hvs.read hkw.out
      subst hva
      have HRD := hide (show RL wr a6 c6 (Od.RR l) from by rw [HRR.out]; exact hrd)
      have hlen : (Od.rows l od m).length = (Od.RR l).length := by rw [HRR.out]
      obtain ⟨N, hN⟩ : ∃ N, (Od.RR l).length = N := ⟨_, rfl⟩
      rw [hlen, hN]
      have HN := hide hN
      clear hvs hrd hlr hlen hN
      go_wp2
      go_ret2
      refine ⟨a6, c6, ?_, HRD.out, KO.on K1.out hkw.out⟩
      rw [HN.out]
      rfl
theorem rruns_any (ao : Option Addr) (n cap : Nat) (l : List Int) (w : World) (h : Row .i64 w ao n cap l) (hn : n ≤ 100000) (R : List (List Int)) (E : Int) (hA : RA l R E) :
    Calls Try.prog 18 #[.slice ao n cap] w fun e w' => ∃ a c, e = .returned (.tuple #[.slice a R.length c, .int .i64 E]) ∧ RL w' a c R ∧ KO w w' := by
  rcases hA with hA | hA
  · obtain ⟨hf, hR, hE⟩ := hA
    subst hE
    have hO := rruns_ok ao n cap l w h hf hn
    rw [← hR] at hO
    exact hO
  · obtain ⟨hf, hR, hE⟩ := hA
    subst hE hR
    refine (rruns_bad ao n cap l w h hf).mono ?_
    rintro e w' ⟨e0, e1⟩
    exact ⟨none, 0, e0, RL_nil _, by rw [← e1]; exact KO.refl _⟩
end Go.Proofs.Ytanoifkegfalgaa
