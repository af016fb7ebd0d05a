import Derived.Test.YtfcoebbblfcdoaaGreatDoorZ36
import Derived.Test.YtfcoebbblfcdoaaGreatDoorZ19
/- The document's Resolve (colophonref10): its contract. -/
namespace Go.Proofs.YtfcoebbblfcdoaaGreatDoor
open Go.RowKit
set_option linter.unusedVariables false
set_option maxHeartbeats 4000000
set_option maxRecDepth 100000
namespace Br
def pl (x y q : Nat) : Nat := if q = 0 then x else y
def gd (was F : List Int) (d : Int) (x y q : Nat) : List Int := if q = 0 then F else if q = 1 then give was F d x else two was F d (x, y)
theorem gd_step (was F : List Int) (d : Int) (x y q : Nat) (h : q < 2) : gd was F d x y (q + 1) = give was (gd was F d x y q) d (pl x y q) := by
 have h2 : q = 0 \/ q = 1 := by omega
 rcases h2 with rfl | rfl <;> rfl
end Br
structure RV10 (w0 w3 : World) (B g n cap : Nat) (zs : List Int) (w : World) : Prop where
 own : w.ownsRow B 3 1 (.slice (some ⟨g, 0, none⟩) n cap) n (zs.map (Value.int .i64))
 bel : Below w0.heap.size w0 w
 sz : w3.heap.size <= w.heap.size
 oth : ∀ j, ¬ j = g -> j < w3.heap.size -> w.heap[j]? = w3.heap[j]?
section
variable {w0 w3 : World} {B g n cap : Nat} {zs : List Int} {w : World}
theorem RV10.set (h : RV10 w0 w3 B g n cap zs w) (hg : w0.heap.size <= g) (k : Nat) (y : Int) : RV10 w0 w3 B g n cap (zs.set k y) (w.setCell ⟨g, k, none⟩ (.int .i64 y)) :=
 ⟨owns_set h.own k y, h.bel.setCell (p := ⟨g, k, none⟩) hg _, by rw [size_set]; exact h.sz, fun j hj hl => (set_other w g k j _ hj).trans (h.oth j hj hl)⟩
theorem RV10.keep (h : RV10 w0 w3 B g n cap zs w) {w' : World} (hk : KO w w') : RV10 w0 w3 B g n cap zs w' :=
 ⟨owns_below h.own hk, KO.on h.bel hk, Nat.le_trans h.sz hk.size, fun j hj hl => (hk.block j (Nat.lt_of_lt_of_le hl h.sz)).trans (h.oth j hj hl)⟩
end
theorem dresolve_any (a0 a1 a2 : Option Addr) (n0 n1 n2 c0 c1 c2 : Nat) (l was t : List Int) (lv s : Int) (w : World) (h0 : Row .i32 w a0 n0 c0 l) (h1 : Row .i64 w a1 n1 c1 was) (h2 : Row .i64 w a2 n2 c2 t) (hf : ∀ x ∈ l, (Lit.int .i32 x).wf = true) (hn : n0 <= 80000) :
  Calls Tryz.prog 61 #[.slice a0 n0 c0, .slice a1 n1 c1, .slice a2 n2 c2, .int .i64 lv, .int .i64 s] w (R10 w (Br.RA l was t lv s)) := by
 have hn1 : n1 <= 9223372036854775807 := by have h3 := h1.le; have h4 := h1.max; unfold maxLen at h4; omega
 have hn2 : n2 <= 9223372036854775807 := by have h3 := h2.le; have h4 := h2.max; unfold maxLen at h4; omega
 have e0 := h0.len
 have e1 := h1.len
 have e2 := h2.len
 by_cases hA : (n0 = n1 /\ n0 = n2) /\ (0 <= lv /\ lv <= 126) /\ (s = 1 \/ s = 2)
 ·obtain ⟨⟨rfl, rfl⟩, ⟨hl0, hl1⟩, hs⟩ := hA
  have q1 : ¬ (lv < 0) := by omega
  have q2 : ¬ (126 < lv) := by omega
  have qn : ((n0 : Int) != (n0 : Int)) = false := by simp
  have HPR := hide (fun W (hk : KO w W) => rpairs_ok a0 a2 n0 c0 c2 l t W (h0.below hk) (h2.below hk) hf hn)
  have HARG : Hid (Br.Arg l.length was.length t.length lv s) := hide ⟨⟨by omega, by omega⟩, ⟨hl0, hl1⟩, hs⟩
  have H1 := hide h1
  have H2 := hide h2
  have HL := hide e2
  have HL1 := hide e1
  have HLL := hide e0
  have hes := Br.es_cases lv
  obtain ⟨ii, hii, hy0, hy1, hy2⟩ := info_parts infoInt
  have HII := hide hii
  have HY0 := hide hy0
  have HY1 := hide hy1
  have HY2 := hide hy2
  have htm : lv.tmod 2 = lv % 2 := Int.tmod_eq_emod_of_nonneg hl0
  have h2c : (lv % 2 = 1 /\ Br.es lv = 2) \/ (lv % 2 = 0 /\ Br.es lv = 1) := by unfold Br.es; split <;> omega
  clear h0 h1 h2 hf hii hy0 hy1 hy2 e0 e1 e2
  have hsb' : ((s != 1) = false) \/ ((s != 1) = true /\ (s != 2) = false) := by rcases hs with rfl | rfl <;> decide
  have hsb : (s != 1 && s != 2) = false := by rcases hs with rfl | rfl <;> rfl
  have HPL : Hid (∀ j, j < (Br.PP l t).length -> ((Br.PP l t).getD j (0, 0)).1 < ((Br.PP l t).getD j (0, 0)).2 /\ ((Br.PP l t).getD j (0, 0)).2 < n0) := hide fun j hj => by have := Br.PP_lt hj; rw [HLL.out] at this; exact this
  have HTP : Hid (∀ j, j < (Br.PP l t).length -> (Br.PP l t).take (j + 1) = (Br.PP l t).take j ++ [(Br.PP l t).getD j (0, 0)]) := hide fun j hj => Br.take_pair hj
  have HTA : Hid ((Br.PP l t).take (Br.PP l t).length = Br.PP l t) := hide (List.take_of_length_le (Nat.le_refl _))
  have HOK : Hid (t.all Br.may = true -> Br.RA l was t lv s = (0, Br.rs was (Br.es lv) s t (Br.PP l t))) := hide fun h => Br.RA_ok HARG.out h
  clear hs
  go_enter Tryz.func61, Tryz.ntmps61
  rcases hsb' with hs1 | ⟨hs1, hs2⟩
  all_goals
   go_wp2
   go_loopw [12] (fun v wr => ∃ k : Nat, v = .int .i64 (k : Int) /\ k <= n0 /\ Hid (∀ i, i < k -> Br.may (t.getD i 0) = true) /\ w = wr) (fun v _ => n0 - (intOf v).toNat)
   case atStart => exact ⟨0, rfl, Nat.zero_le _, hide (fun i hi => by omega), rfl⟩
   case round =>
    obtain ⟨k, rfl, hk, HM, rfl⟩ := hrel
    by_cases hlt : k < n0
    ·have hlt' : (k : Int) < (n0 : Int) := by omega
     obtain ⟨b, off, eb, hb, hc⟩ := H2.out.cells (by omega)
     have gk := hc k (by rw [HL.out]; exact hlt)
     subst eb
     have HMB := hide (dmay_any (t.getD k 0) w)
     clear hc hb
     cases hmay : Br.may (t.getD k 0) with
     | true =>
      have HM2 : Hid (∀ i, i < k + 1 -> Br.may (t.getD i 0) = true) := hide fun i hi => by
       rcases Nat.lt_succ_iff_lt_or_eq.1 hi with h | h
       ·exact HM.out i h
       ·rw [h]; exact hmay
      rw [hmay] at HMB
      clear HM hmay
      generalize t.getD k 0 = x at *
      go_wp2_with (go_at_call 94; refine HMB.out.mono ?_; rintro e w' ⟨rfl, rfl⟩)
      go_roundw
      case rel => exact ⟨k + 1, by go_num, by omega, HM2, trivial⟩
      case measure => simp [intOf]; omega
     | false =>
      have HF := hide (Br.RA_form HARG.out (Br.all_no (by rw [HL.out]; exact hlt) hmay))
      rw [hmay] at HMB
      clear HM hmay
      generalize t.getD k 0 = x at *
      go_wp2_with (go_at_call 94; refine HMB.out.mono ?_; rintro e w' ⟨rfl, rfl⟩)
      go_ret2
      exact R10.err HF.out (KO.refl _)
    ·obtain rfl : k = n0 := by omega
     have hne : ¬ ((k : Int) < (k : Int)) := by omega
     have HR := hide (HOK.out (Br.all_yes (fun i hi => HM.out i (by rw [HL.out] at hi; exact hi))))
     clear HM hlt HOK HARG
     obtain ⟨W1, hW1⟩ : ∃ W1, w.alloc (.cells #[] 3) = W1 := ⟨_, rfl⟩
     have hkW : KO w W1 := by rw [<- hW1]; exact KO.alloc (KO.refl _) _
     have HO1 := hide (show W1.ownsRow w.heap.size 3 1 (.slice (some ⟨w.heap.size, 0, none⟩) 0 0) 0 [] from by rw [<- hW1]; exact owns_empty w 3 w.heap.size rfl)
     have HRT := hide (H2.out.below hkW)
     have HKW := hide hkW
     clear hkW
     rcases h2c with ⟨hp2, hev⟩ | ⟨hp2, hev⟩
     ·rw [hev] at HR
      rw [hp2] at htm
      clear hev hp2 hes
      generalize hPS : Br.PP l t = PS at *
      generalize hPN : PS.length = pn at *
      go_wp2_with (at_builtin; refine wpList_append_row W1 (by rfl) (.tmp 64) (.tmp 65) 30 rfl w.heap.size 3 ii (.int .i64 0) 8 Tryz.underlying30 HII.out HY0.out HY1.out HY2.out rfl _ 0 _ rfl HO1.out .i64 a2 k c2 t rfl HRT.out (by omega) (by omega) HKW.out.size ?_; intro v2 W2 ho2 hb2; clear hW1; rw [Nat.zero_add, List.nil_append] at ho2; obtain ⟨av, cv, hv2, hr2⟩ := row_of_owns ho2; subst hv2)
      have HKW2 := hide (show KO w W2 from HKW.out.trans hb2)
      refine (HPR.out W2 HKW2.out).mono ?_
      rintro e w3 ⟨ap, cp, rfl, hp3, hk3, hfr⟩
      clear hPS
      have HKW3 := hide (KO.on HKW2.out hk3)
      have HPP := hide hp3
      have HFR := hide hfr
      have hpm := hp3.max
      have hpl := hp3.le
      unfold maxLen at hpm
      have HROW : Hid (Row .i64 w3 av k cv (Br.rs was 2 s t (PS.take 0))) := hide (hr2.below hk3)
      have HRV : Hid (0 < k -> ∃ g, av = some ⟨g, 0, none⟩ /\ g < W2.heap.size /\ w.heap.size <= g /\ RV10 w w3 w.heap.size g k cv (Br.rs was 2 s t (PS.take 0)) w3) := hide fun hk0 => by
       obtain ⟨g, cap', ev, hbg, _⟩ := owns_pos ho2 hk0
       simp only [Value.slice.injEq] at ev
       obtain ⟨rfl, _, rfl⟩ := ev
       exact ⟨g, rfl, (ho2.lt g rfl).2, hbg, ⟨owns_below ho2 hk3, HKW3.out, Nat.le_refl _, fun j _ _ => rfl⟩⟩
      clear ho2 hb2 hr2 hp3 hk3 hfr HO1 HRT HKW HPR
      go_wp2
      go_loopw [17] (fun v wr => ∃ j : Nat, v = .int .i64 (j : Int) /\ j <= pn /\ Hid (Row .i64 wr av k cv (Br.rs was 2 s t (PS.take j))) /\ Hid (KO w wr) /\ Hid (0 < k -> ∃ g, av = some ⟨g, 0, none⟩ /\ g < W2.heap.size /\ w.heap.size <= g /\ RV10 w w3 w.heap.size g k cv (Br.rs was 2 s t (PS.take j)) wr)) (fun v _ => pn - (intOf v).toNat)
      case atStart => exact ⟨0, rfl, Nat.zero_le _, HROW, HKW3, HRV⟩
      case round =>
       rename World => wr
       obtain ⟨j, rfl, hj, HJR, HJK, HJV⟩ := hrel
       clear HROW HRV
       by_cases hjn : j < pn
       ·have hjn' : (j : Int) < (pn : Int) := by omega
        obtain ⟨k1, k2⟩ := HPL.out j hjn
        obtain ⟨g, eg, hg2, hgw, hrv⟩ := HJV.out (by omega)
        subst eg
        obtain ⟨b, eb, hb, hc⟩ := HPP.out.cells (by omega)
        obtain ⟨t0, t1⟩ := hc j hjn
        have hbf := HFR.out b 0 eb
        subst eb
        have HBW := hide (fun (W : World) (T : List Int) (hr : RV10 w w3 w.heap.size g k cv T W) => show W.heap[b]? = w3.heap[b]? from hr.oth b (by omega) hb)
        have HSN : Hid (Br.rs was 2 s t (PS.take (j + 1)) = Br.one was 2 s (Br.rs was 2 s t (PS.take j)) (PS.getD j (0, 0))) := hide (by rw [HTP.out j hjn, Br.rs_snoc])
        generalize Br.rs was 2 s t (PS.take j) = T at *
        generalize PS.getD j (0, 0) = pp at *
        obtain ⟨x, y⟩ := pp
        simp only at t0 t1 k1 k2
        have HT0 := hide (fun (W : World) (T : List Int) (hr : RV10 w w3 w.heap.size g k cv T W) => show W.cell? ⟨b, j * 2, none⟩ = some (.int .i64 (x : Int)) /\ W.cell? ⟨b, j * 2 + 1, none⟩ = some (.int .i64 (y : Int)) from ⟨(World.cell?_of_block (HBW.out W T hr)).trans t0, (World.cell?_of_block (HBW.out W T hr)).trans t1⟩)
        have HRVJ := hide hrv
        obtain ⟨s0, s1⟩ := HT0.out wr T hrv
        have HGT := hide (dgets_any (some ⟨g, 0, none⟩) k cv T x y 2 s wr HJR.out (by omega) k1 k2 (by omega))
        have HGW := hide hgw
        have HG2 := hide hg2
        clear hc hb hrv t0 t1 HBW HJR HJV hbf
        go_wp2_with fail
        refine HGT.out.mono ?_
        rintro e w5 ⟨rfl, hk5⟩
        have HV5 := hide (HRVJ.out.keep hk5)
        clear hk5 HGT HRVJ s0 s1 HJK
        by_cases hd : Br.dr T (x, y) 2 s = 0
        ·have HN : Hid (Br.rs was 2 s t (PS.take (j + 1)) = T) := hide (by rw [HSN.out]; unfold Br.one; rw [if_pos hd])
         rw [hd]
         clear HSN hd
         go_wp2
         go_loopw [19] (fun v wi => v = .int .i64 0 /\ w5 = wi) (fun v _ => 0)
         case atStart => exact ⟨rfl, rfl⟩
         case round =>
          rename World => wi
          obtain ⟨rfl, rfl⟩ := hrel
          go_wp2
          go_roundw
          case rel => exact ⟨j + 1, by go_num, by omega, by rw [HN.out]; exact hide (row_owned HV5.out.own), hide HV5.out.bel, by rw [HN.out]; exact hide fun _ => ⟨g, rfl, HG2.out, HGW.out, HV5.out⟩⟩
          case measure => simp [intOf]; omega
        ·have HN : Hid (Br.rs was 2 s t (PS.take (j + 1)) = Br.gd was T (Br.dr T (x, y) 2 s) x y 2) := hide (by rw [HSN.out]; unfold Br.one; rw [if_neg hd]; rfl)
         generalize Br.dr T (x, y) 2 s = dd at *
         have hdb : (dd != 0) = true := bne_iff_ne.2 hd
         clear HSN hd
         go_wp2
         go_loopw [19] (fun v wi => ∃ q : Nat, v = .int .i64 (q : Int) /\ q <= 2 /\ Hid (RV10 w w3 w.heap.size g k cv (Br.gd was T dd x y q) wi)) (fun v _ => 2 - (intOf v).toNat)
         case atStart => exact ⟨0, rfl, by omega, HV5⟩
         case round =>
          rename World => wi
          obtain ⟨q, rfl, hq, HQ⟩ := hrel
          clear HV5
          by_cases hq2 : q < 2
          ·have hq2' : (q : Int) < 2 := by omega
           have HGS := hide (Br.gd_step was T dd x y q hq2)
           have hcell : wi.cell? ⟨b, j * 2 + q, none⟩ = some (.int .i64 (Br.pl x y q : Int)) := by
            obtain ⟨u0, u1⟩ := HT0.out wi _ HQ.out
            have h2 : q = 0 \/ q = 1 := by omega
            rcases h2 with rfl | rfl
            ·exact u0
            ·exact u1
           have hpl1 : Br.pl x y q < k := by unfold Br.pl; split <;> omega
           generalize Br.pl x y q = p at *
           generalize Br.gd was T dd x y q = G at *
           have hp' : (p : Int) < (k : Int) := by omega
           have cc := owns_cell HQ.out.own p hpl1
           have ff := HQ.out.own.frozenAt p
           have HQ1 := hide (HQ.out.set HGW.out p dd)
           rw [Br.setR_one] at HQ1
           generalize G.getD p 0 = old at cc
           clear HQ
           go_wp2
           generalize hW9 : wi.setCell ⟨g, p, none⟩ (.int .i64 dd) = W9 at *
           clear hW9 cc ff hcell
           go_loopw [20] (fun v wk => ∃ i : Nat, v = .int .i64 (i : Int) /\ p <= i /\ i < k /\ Hid (Br.nx was (p + 1) = Br.nx was (i + 1)) /\ Hid (RV10 w w3 w.heap.size g k cv (Br.setR G dd p (i + 1)) wk)) (fun v _ => k - (intOf v).toNat)
           case atStart => exact ⟨p, rfl, Nat.le_refl _, hpl1, hide rfl, HQ1⟩
           case round =>
            rename World => wk
            obtain ⟨i, rfl, hi1, hi2, HNX, HO⟩ := hrel
            clear HQ1
            by_cases hik : i + 1 < k
            ·have hik' : (i : Int) + 1 < (k : Int) := by omega
             obtain ⟨bw, ow, ew, _, hcw⟩ := (H1.out.below HO.out.bel).cells (by omega)
             have gk := hcw (i + 1) (by rw [HL1.out]; exact hik)
             subst ew
             clear hcw
             by_cases h9 : was.getD (i + 1) 0 = 9
             ·have HN2 : Hid (Br.nx was (p + 1) = Br.nx was (i + 1 + 1)) := hide (by rw [HNX.out]; exact Br.nx_more (by rw [HL1.out]; exact hik) h9)
              rw [h9] at gk
              have ck := owns_cell HO.out.own (i + 1) hik
              have fk := HO.out.own.frozenAt (i + 1)
              have HO2 := hide (HO.out.set HGW.out (i + 1) dd)
              rw [Br.setR_snoc _ _ _ _ (by omega)] at HO2
              clear HNX h9 HO
              generalize (Br.setR G dd p (i + 1)).getD (i + 1) 0 = old2 at ck
              go_wp2
              go_roundw
              case rel => exact ⟨i + 1, by go_num, by omega, hik, HN2, HO2⟩
              case measure => simp [intOf]; omega
             ·have HX2 : Hid (Br.gd was T dd x y (q + 1) = Br.setR G dd p (i + 1)) := hide (by rw [HGS.out]; show Br.setR G dd p (Br.nx was (p + 1)) = _; rw [HNX.out, Br.nx_stop (fun h => h9 h.2)])
              have h9b : (was.getD (i + 1) 0 == 9) = false := beq_false_of_ne h9
              clear HNX h9
              generalize was.getD (i + 1) 0 = v9 at *
              go_wp2
              go_roundw
              case rel => exact ⟨q + 1, by go_num, by omega, by rw [HX2.out]; exact HO⟩
              case measure => simp [intOf]; omega
            ·have hik' : ¬ (i : Int) + 1 < (k : Int) := by omega
             have HX2 : Hid (Br.gd was T dd x y (q + 1) = Br.setR G dd p (i + 1)) := hide (by rw [HGS.out]; show Br.setR G dd p (Br.nx was (p + 1)) = _; rw [HNX.out, Br.nx_stop (fun h => by have := h.1; have := HL1.out; omega)])
             clear HNX
             go_wp2
             go_roundw
             case rel => exact ⟨q + 1, by go_num, by omega, by rw [HX2.out]; exact HO⟩
             case measure => simp [intOf]; omega
          ·obtain rfl : q = 2 := by omega
           go_wp2
           go_roundw
           case rel => exact ⟨j + 1, by go_num, by omega, by rw [HN.out]; exact hide (row_owned HQ.out.own), hide HQ.out.bel, by rw [HN.out]; exact hide fun _ => ⟨g, rfl, HG2.out, HGW.out, HQ.out⟩⟩
           case measure => simp [intOf]; omega
       ·obtain rfl : j = pn := by omega
        have hne2 : ¬ ((j : Int) < (j : Int)) := by omega
        rw [HTA.out] at HJR
        have HLN : Hid (k = (Br.rs was 2 s t PS).length) := hide (by rw [Br.rs_len, HL.out])
        clear HJV
        go_wp2
        go_ret2
        rw [HR.out]
        refine ⟨av, cv, ?_, ?_, HJK.out⟩
        ·simp only [<- HLN.out]; rfl
        ·simp only [<- HLN.out]; exact HJR.out
     ·rw [hev] at HR
      rw [hp2] at htm
      clear hev hp2 hes
      generalize hPS : Br.PP l t = PS at *
      generalize hPN : PS.length = pn at *
      go_wp2_with (at_builtin; refine wpList_append_row W1 (by rfl) (.tmp 64) (.tmp 65) 30 rfl w.heap.size 3 ii (.int .i64 0) 8 Tryz.underlying30 HII.out HY0.out HY1.out HY2.out rfl _ 0 _ rfl HO1.out .i64 a2 k c2 t rfl HRT.out (by omega) (by omega) HKW.out.size ?_; intro v2 W2 ho2 hb2; clear hW1; rw [Nat.zero_add, List.nil_append] at ho2; obtain ⟨av, cv, hv2, hr2⟩ := row_of_owns ho2; subst hv2)
      have HKW2 := hide (show KO w W2 from HKW.out.trans hb2)
      refine (HPR.out W2 HKW2.out).mono ?_
      rintro e w3 ⟨ap, cp, rfl, hp3, hk3, hfr⟩
      clear hPS
      have HKW3 := hide (KO.on HKW2.out hk3)
      have HPP := hide hp3
      have HFR := hide hfr
      have hpm := hp3.max
      have hpl := hp3.le
      unfold maxLen at hpm
      have HROW : Hid (Row .i64 w3 av k cv (Br.rs was 1 s t (PS.take 0))) := hide (hr2.below hk3)
      have HRV : Hid (0 < k -> ∃ g, av = some ⟨g, 0, none⟩ /\ g < W2.heap.size /\ w.heap.size <= g /\ RV10 w w3 w.heap.size g k cv (Br.rs was 1 s t (PS.take 0)) w3) := hide fun hk0 => by
       obtain ⟨g, cap', ev, hbg, _⟩ := owns_pos ho2 hk0
       simp only [Value.slice.injEq] at ev
       obtain ⟨rfl, _, rfl⟩ := ev
       exact ⟨g, rfl, (ho2.lt g rfl).2, hbg, ⟨owns_below ho2 hk3, HKW3.out, Nat.le_refl _, fun j _ _ => rfl⟩⟩
      clear ho2 hb2 hr2 hp3 hk3 hfr HO1 HRT HKW HPR
      go_wp2
      go_loopw [17] (fun v wr => ∃ j : Nat, v = .int .i64 (j : Int) /\ j <= pn /\ Hid (Row .i64 wr av k cv (Br.rs was 1 s t (PS.take j))) /\ Hid (KO w wr) /\ Hid (0 < k -> ∃ g, av = some ⟨g, 0, none⟩ /\ g < W2.heap.size /\ w.heap.size <= g /\ RV10 w w3 w.heap.size g k cv (Br.rs was 1 s t (PS.take j)) wr)) (fun v _ => pn - (intOf v).toNat)
      case atStart => exact ⟨0, rfl, Nat.zero_le _, HROW, HKW3, HRV⟩
      case round =>
       rename World => wr
       obtain ⟨j, rfl, hj, HJR, HJK, HJV⟩ := hrel
       clear HROW HRV
       by_cases hjn : j < pn
       ·have hjn' : (j : Int) < (pn : Int) := by omega
        obtain ⟨k1, k2⟩ := HPL.out j hjn
        obtain ⟨g, eg, hg2, hgw, hrv⟩ := HJV.out (by omega)
        subst eg
        obtain ⟨b, eb, hb, hc⟩ := HPP.out.cells (by omega)
        obtain ⟨t0, t1⟩ := hc j hjn
        have hbf := HFR.out b 0 eb
        subst eb
        have HBW := hide (fun (W : World) (T : List Int) (hr : RV10 w w3 w.heap.size g k cv T W) => show W.heap[b]? = w3.heap[b]? from hr.oth b (by omega) hb)
        have HSN : Hid (Br.rs was 1 s t (PS.take (j + 1)) = Br.one was 1 s (Br.rs was 1 s t (PS.take j)) (PS.getD j (0, 0))) := hide (by rw [HTP.out j hjn, Br.rs_snoc])
        generalize Br.rs was 1 s t (PS.take j) = T at *
        generalize PS.getD j (0, 0) = pp at *
        obtain ⟨x, y⟩ := pp
        simp only at t0 t1 k1 k2
        have HT0 := hide (fun (W : World) (T : List Int) (hr : RV10 w w3 w.heap.size g k cv T W) => show W.cell? ⟨b, j * 2, none⟩ = some (.int .i64 (x : Int)) /\ W.cell? ⟨b, j * 2 + 1, none⟩ = some (.int .i64 (y : Int)) from ⟨(World.cell?_of_block (HBW.out W T hr)).trans t0, (World.cell?_of_block (HBW.out W T hr)).trans t1⟩)
        have HRVJ := hide hrv
        obtain ⟨s0, s1⟩ := HT0.out wr T hrv
        have HGT := hide (dgets_any (some ⟨g, 0, none⟩) k cv T x y 1 s wr HJR.out (by omega) k1 k2 (by omega))
        have HGW := hide hgw
        have HG2 := hide hg2
        clear hc hb hrv t0 t1 HBW HJR HJV hbf
        go_wp2_with fail
        refine HGT.out.mono ?_
        rintro e w5 ⟨rfl, hk5⟩
        have HV5 := hide (HRVJ.out.keep hk5)
        clear hk5 HGT HRVJ s0 s1 HJK
        by_cases hd : Br.dr T (x, y) 1 s = 0
        ·have HN : Hid (Br.rs was 1 s t (PS.take (j + 1)) = T) := hide (by rw [HSN.out]; unfold Br.one; rw [if_pos hd])
         rw [hd]
         clear HSN hd
         go_wp2
         go_loopw [19] (fun v wi => v = .int .i64 0 /\ w5 = wi) (fun v _ => 0)
         case atStart => exact ⟨rfl, rfl⟩
         case round =>
          rename World => wi
          obtain ⟨rfl, rfl⟩ := hrel
          go_wp2
          go_roundw
          case rel => exact ⟨j + 1, by go_num, by omega, by rw [HN.out]; exact hide (row_owned HV5.out.own), hide HV5.out.bel, by rw [HN.out]; exact hide fun _ => ⟨g, rfl, HG2.out, HGW.out, HV5.out⟩⟩
          case measure => simp [intOf]; omega
        ·have HN : Hid (Br.rs was 1 s t (PS.take (j + 1)) = Br.gd was T (Br.dr T (x, y) 1 s) x y 2) := hide (by rw [HSN.out]; unfold Br.one; rw [if_neg hd]; rfl)
         generalize Br.dr T (x, y) 1 s = dd at *
         have hdb : (dd != 0) = true := bne_iff_ne.2 hd
         clear HSN hd
         go_wp2
         go_loopw [19] (fun v wi => ∃ q : Nat, v = .int .i64 (q : Int) /\ q <= 2 /\ Hid (RV10 w w3 w.heap.size g k cv (Br.gd was T dd x y q) wi)) (fun v _ => 2 - (intOf v).toNat)
         case atStart => exact ⟨0, rfl, by omega, HV5⟩
         case round =>
          rename World => wi
          obtain ⟨q, rfl, hq, HQ⟩ := hrel
          clear HV5
          by_cases hq2 : q < 2
          ·have hq2' : (q : Int) < 2 := by omega
           have HGS := hide (Br.gd_step was T dd x y q hq2)
           have hcell : wi.cell? ⟨b, j * 2 + q, none⟩ = some (.int .i64 (Br.pl x y q : Int)) := by
            obtain ⟨u0, u1⟩ := HT0.out wi _ HQ.out
            have h2 : q = 0 \/ q = 1 := by omega
            rcases h2 with rfl | rfl
            ·exact u0
            ·exact u1
           have hpl1 : Br.pl x y q < k := by unfold Br.pl; split <;> omega
           generalize Br.pl x y q = p at *
           generalize Br.gd was T dd x y q = G at *
           have hp' : (p : Int) < (k : Int) := by omega
           have cc := owns_cell HQ.out.own p hpl1
           have ff := HQ.out.own.frozenAt p
           have HQ1 := hide (HQ.out.set HGW.out p dd)
           rw [Br.setR_one] at HQ1
           generalize G.getD p 0 = old at cc
           clear HQ
           go_wp2
           generalize hW9 : wi.setCell ⟨g, p, none⟩ (.int .i64 dd) = W9 at *
           clear hW9 cc ff hcell
           go_loopw [20] (fun v wk => ∃ i : Nat, v = .int .i64 (i : Int) /\ p <= i /\ i < k /\ Hid (Br.nx was (p + 1) = Br.nx was (i + 1)) /\ Hid (RV10 w w3 w.heap.size g k cv (Br.setR G dd p (i + 1)) wk)) (fun v _ => k - (intOf v).toNat)
           case atStart => exact ⟨p, rfl, Nat.le_refl _, hpl1, hide rfl, HQ1⟩
           case round =>
            rename World => wk
            obtain ⟨i, rfl, hi1, hi2, HNX, HO⟩ := hrel
            clear HQ1
            by_cases hik : i + 1 < k
            ·have hik' : (i : Int) + 1 < (k : Int) := by omega
             obtain ⟨bw, ow, ew, _, hcw⟩ := (H1.out.below HO.out.bel).cells (by omega)
             have gk := hcw (i + 1) (by rw [HL1.out]; exact hik)
             subst ew
             clear hcw
             by_cases h9 : was.getD (i + 1) 0 = 9
             ·have HN2 : Hid (Br.nx was (p + 1) = Br.nx was (i + 1 + 1)) := hide (by rw [HNX.out]; exact Br.nx_more (by rw [HL1.out]; exact hik) h9)
              rw [h9] at gk
              have ck := owns_cell HO.out.own (i + 1) hik
              have fk := HO.out.own.frozenAt (i + 1)
              have HO2 := hide (HO.out.set HGW.out (i + 1) dd)
              rw [Br.setR_snoc _ _ _ _ (by omega)] at HO2
              clear HNX h9 HO
              generalize (Br.setR G dd p (i + 1)).getD (i + 1) 0 = old2 at ck
              go_wp2
              go_roundw
              case rel => exact ⟨i + 1, by go_num, by omega, hik, HN2, HO2⟩
              case measure => simp [intOf]; omega
             ·have HX2 : Hid (Br.gd was T dd x y (q + 1) = Br.setR G dd p (i + 1)) := hide (by rw [HGS.out]; show Br.setR G dd p (Br.nx was (p + 1)) = _; rw [HNX.out, Br.nx_stop (fun h => h9 h.2)])
              have h9b : (was.getD (i + 1) 0 == 9) = false := beq_false_of_ne h9
              clear HNX h9
              generalize was.getD (i + 1) 0 = v9 at *
              go_wp2
              go_roundw
              case rel => exact ⟨q + 1, by go_num, by omega, by rw [HX2.out]; exact HO⟩
              case measure => simp [intOf]; omega
            ·have hik' : ¬ (i : Int) + 1 < (k : Int) := by omega
             have HX2 : Hid (Br.gd was T dd x y (q + 1) = Br.setR G dd p (i + 1)) := hide (by rw [HGS.out]; show Br.setR G dd p (Br.nx was (p + 1)) = _; rw [HNX.out, Br.nx_stop (fun h => by have := h.1; have := HL1.out; omega)])
             clear HNX
             go_wp2
             go_roundw
             case rel => exact ⟨q + 1, by go_num, by omega, by rw [HX2.out]; exact HO⟩
             case measure => simp [intOf]; omega
          ·obtain rfl : q = 2 := by omega
           go_wp2
           go_roundw
           case rel => exact ⟨j + 1, by go_num, by omega, by rw [HN.out]; exact hide (row_owned HQ.out.own), hide HQ.out.bel, by rw [HN.out]; exact hide fun _ => ⟨g, rfl, HG2.out, HGW.out, HQ.out⟩⟩
           case measure => simp [intOf]; omega
       ·obtain rfl : j = pn := by omega
        have hne2 : ¬ ((j : Int) < (j : Int)) := by omega
        rw [HTA.out] at HJR
        have HLN : Hid (k = (Br.rs was 1 s t PS).length) := hide (by rw [Br.rs_len, HL.out])
        clear HJV
        go_wp2
        go_ret2
        rw [HR.out]
        refine ⟨av, cv, ?_, ?_, HJK.out⟩
        ·simp only [<- HLN.out]; rfl
        ·simp only [<- HLN.out]; exact HJR.out
 ·have HR := hide (Br.RA_arg (l := l) (was := was) (t := t) (lv := lv) (s := s) (fun h => hA ⟨by have := h.1; omega, h.2⟩))
  have hc : (¬ n0 = n1) \/ (n0 = n1 /\ ¬ n0 = n2) \/ (n0 = n1 /\ n0 = n2 /\ lv < 0) \/ (n0 = n1 /\ n0 = n2 /\ ¬ lv < 0 /\ 126 < lv) \/ (n0 = n1 /\ n0 = n2 /\ ¬ lv < 0 /\ ¬ 126 < lv /\ ¬ s = 1 /\ ¬ s = 2) := by omega
  clear h0 h1 h2 hf hA e0 e1 e2
  rcases hc with q1 | ⟨rfl, q1⟩ | ⟨rfl, rfl, q1⟩ | ⟨rfl, rfl, q1, q2⟩ | ⟨rfl, rfl, q1, q2, q3, q4⟩
  ·have qn : ((n0 : Int) != (n1 : Int)) = true := bne_iff_ne.2 (by omega)
   go_enter Tryz.func61, Tryz.ntmps61
   go_wp2
   go_ret2
   exact R10.err HR.out (KO.refl _)
  ·have qn : ((n0 : Int) != (n2 : Int)) = true := bne_iff_ne.2 (by omega)
   go_enter Tryz.func61, Tryz.ntmps61
   go_wp2
   go_ret2
   exact R10.err HR.out (KO.refl _)
  rotate_left 2
  ·have q3b : (s != 1) = true := bne_iff_ne.2 q3
   have q4b : (s != 2) = true := bne_iff_ne.2 q4
   go_enter Tryz.func61, Tryz.ntmps61
   go_wp2
   go_ret2
   exact R10.err HR.out (KO.refl _)
  all_goals
   go_enter Tryz.func61, Tryz.ntmps61
   go_wp2
   go_ret2
   exact R10.err HR.out (KO.refl _)
end Go.Proofs.YtfcoebbblfcdoaaGreatDoor
