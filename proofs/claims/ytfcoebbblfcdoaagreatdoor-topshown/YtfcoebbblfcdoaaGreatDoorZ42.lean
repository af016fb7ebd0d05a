import Derived.Test.YtfcoebbblfcdoaaGreatDoorZ38
import Derived.Test.YtfcoebbblfcdoaaGreatDoorZ31
import Derived.Test.YtfcoebbblfcdoaaGreatDoorZ32
import Derived.Test.YtfcoebbblfcdoaaGreatDoorZ41
import Derived.Test.YtfcoebbblfcdoaaGreatDoorZ25
import Derived.Test.YtfcoebbblfcdoaaGreatDoorZ26
import Derived.Test.YtfcoebbblfcdoaaGreatDoorZ29
import Derived.Test.YtfcoebbblfcdoaaGreatDoorZ24
/- The document's Paragraph. -/
namespace Go.Proofs.YtfcoebbblfcdoaaGreatDoor
open Go.RowKit
set_option linter.unusedVariables false
set_option maxHeartbeats 2000000
set_option maxRecDepth 100000
structure LPV (w0 W : World) (B : Nat) (va vt : Value) (n : Nat) (zs T : List Int) (sv : Value) (ss : List Rn.Sq) : Prop where
 ow : W.ownsRow w0.heap.size 3 1 va n (zs.map (Value.int .i64))
 ot : W.ownsRow w0.heap.size 3 1 vt n (T.map (Value.int .i64))
 ne : ∀ g, va.ownBlock = some g -> ¬ vt.ownBlock = some g
 lt : ∀ g, va.ownBlock = some g \/ vt.ownBlock = some g -> g < B
 so : ∃ hs, SO B W sv hs ss
 bel : Below w0.heap.size w0 W
theorem LPV.toW {w0 W : World} {B g gt n cl ct : Nat} {zs T : List Int} {sv : Value} {ss : List Rn.Sq} (h : LPV w0 W B (.slice (some ⟨g, 0, none⟩) n cl) (.slice (some ⟨gt, 0, none⟩) n ct) n zs T sv ss) : LPW w0 W B g gt n cl ct zs T sv ss :=
 ⟨h.ow, h.ot, fun e => h.ne g rfl (by rw [e]; rfl), ⟨h.lt g (.inl rfl), h.lt gt (.inr rfl)⟩, h.so, h.bel⟩
theorem LPW.toV {w0 W : World} {B g gt n cl ct : Nat} {zs T : List Int} {sv : Value} {ss : List Rn.Sq} (h : LPW w0 W B g gt n cl ct zs T sv ss) : LPV w0 W B (.slice (some ⟨g, 0, none⟩) n cl) (.slice (some ⟨gt, 0, none⟩) n ct) n zs T sv ss := by
 refine ⟨h.ow, h.ot, fun q h1 h2 => ?_, fun q hq => ?_, h.so, h.bel⟩
 ·simp [Value.ownBlock] at h1 h2
  exact h.ne (h1.trans h2.symm)
 ·simp [Value.ownBlock] at hq
  rcases hq with rfl | rfl
  ·exact h.lt.1
  ·exact h.lt.2
theorem rparagraph12_ok (ao ac : Option Addr) (n cap cc : Nat) (l : List Int) (base : Int) (w : World) (h : Row .i32 w ao n cap l) (hf : ∀ x ∈ l, (Lit.int .i32 x).wf = true) (hn : n <= 300) (hbb : Rn.BB base) (hF : Ex.Formed (Rn.cl l)) :
  Calls Tryz.prog 16 #[.slice ao n cap, .int .i64 base] w (RPA w (Rn.bl base l) (Rn.VS l (Rn.bl base l)) 0) := by
 have hlen := h.len
 have hcl : (Rn.cl l).length = n := by rw [Rn.cl_len, hlen]
 have HWR := hide (rwrong12_any ao n cap l base 0 w h hf (.inr (.inr (.inr ⟨hbb, by omega, hF, rfl⟩))))
 have HC := hide (fun W (hk : KO w W) => rclasses_any ao n cap l W (h.below hk) hf (by omega))
 have hb := Rn.bl_two hbb l
 have HBA := hide (fun W ac cc (h0 : Row .i64 W ac n cc (Rn.cl l)) => (show Calls Tryz.prog 32 #[.slice ac n cc, .int .i64 0, .int .i64 (n : Int)] W fun e w' => e = .returned (.tuple #[.int .i64 (Iso.bso 0 (Rn.cl l)), .int .i64 0]) /\ W = w' from by
  have := rbase_ok ac n cc (Rn.cl l) 0 n W h0 (by omega) (Nat.zero_le _) (Nat.le_refl _)
  rw [List.take_of_length_le (by rw [hcl]; exact Nat.le_refl _), List.drop_zero] at this
  exact this))
 have hbl : (base = -1 /\ Iso.bso 0 (Rn.cl l) = Rn.bl base l) \/ (¬ base = -1 /\ base = Rn.bl base l) := by
  unfold Rn.bl
  by_cases e : base = -1
  ·exact .inl ⟨e, (if_pos e).symm⟩
  ·exact .inr ⟨e, (if_neg e).symm⟩
 generalize hbq : Rn.bl base l = b at *
 have HR := hide (fun W ac cc (h0 : Row .i64 W ac n cc (Rn.cl l)) => rresolve_own ac n cc (Rn.cl l) b W h0 hn hb hF)
 have HS : Hid (∀ W ac cc, Row .i64 W ac n cc (Rn.cl l) -> Calls Tryz.prog 34 #[.slice ac n cc, .int .i64 b] W fun e w' => ∃ sa cs, e = .returned (.tuple #[.slice sa (Rn.SQ b (Rn.cl l)).length cs, .int .i64 0]) /\ (∃ hs, SO W.heap.size w' (.slice sa (Rn.SQ b (Rn.cl l)).length cs) hs (Rn.SQ b (Rn.cl l))) /\ Below W.heap.size W w') := hide fun W ac cc h0 => refsequences_own ac n cc (Rn.cl l) b W h0 hn hb hF
 have HG := hide (fun j (hj : j < (Rn.SQ b (Rn.cl l)).length) => Rn.g_of hb hF l (Rn.sq_mem hj))
 have HPOS := hide (fun j (hj : j < (Rn.SQ b (Rn.cl l)).length) => (show 0 < n from by
  have h1 := (Rn.sq_good hb hF (Rn.sq_mem hj)).2.2.2.2
  have h2 := Rn.sq_in hb hF hj _ (Rn.getD_mem h1)
  omega))
 have HWS := hide (fun j m (hj : j < (Rn.SQ b (Rn.cl l)).length) (hm : m < ((Rn.SQ b (Rn.cl l)).getD j default).places.length) => Rn.WK_set (l := l) hb hF hj hm)
 have HWN := hide (fun j (hj : j < (Rn.SQ b (Rn.cl l)).length) => Rn.WK_next (l := l) hj)
 have HWE := hide (Rn.WK_end (l := l) hb hF)
 have HWF := hide (Rn.WK_first (l := l) (b := b) (c := Rn.cl l))
 have HIN := hide (fun j (hj : j < (Rn.SQ b (Rn.cl l)).length) i (hi : i ∈ ((Rn.SQ b (Rn.cl l)).getD j default).places) => (show i < n from by have := Rn.sq_in hb hF hj i hi; omega))
 have HSH := hide (fun j (hj : j < (Rn.SQ b (Rn.cl l)).length) => (show ((Rn.SQ b (Rn.cl l)).getD j default).places.length <= 300 from by have := Rn.sq_short hb hF hj; omega))
 have HVS := hide (show Rn.VS l b = Rn.PVs Rn.F13 l b (Rn.cl l) from rfl)
 have HVL := hide (show (Rn.VS l b).length = n from by rw [Rn.VS_len, hlen])
 have HSE := hide (fun (at' : Option Addr) (ct : Nat) (T : List Int) W gj np cj ps x y z (hk : KO w W) (hT : Row .i64 W at' n ct T) (hp : Row .i64 W (some ⟨gj, 0, none⟩) np cj (Rn.zs ps)) (hlt : ∀ i ∈ ps, i < n) (hg : Rn.G (Rn.pk l ps) (Rn.pk T ps) x y z) (hnp : np <= 300) => rseq12_any ao at' n cap ct l T W (h.below hk) hT gj np cj ps x y z hp hlt hg hf hnp)
 unfold RPA
 rw [HVL.out]
 unfold Rn.fv at HWS
 rw [HVS.out, <- HWE.out]
 rw [<- HWF.out] at HR
 generalize hWK : Rn.WK l b (Rn.cl l) = WK at *
 generalize hSQ : Rn.SQ b (Rn.cl l) = ss at *
 generalize hTY : Ex.TY b (Rn.cl l) = ty at *
 clear hWK hSQ hTY HWE HWF HVS HVL h hf hb hF hcl hlen hbb hbq
 rcases hbl with ⟨rfl, hbl⟩ | ⟨hb1, hbl⟩
 ·rw [hbl] at HBA
  clear hbl
  go_enter Tryz.func16, Tryz.ntmps16
  go_wp2_with fail
  refine HWR.out.mono ?_
  rintro e w1 ⟨rfl, hk1⟩
  have HC1 := hide (HC.out w1 hk1)
  have HK1 := hide hk1
  clear hk1 HWR HC
  go_wp2_with fail
  refine HC1.out.mono ?_
  rintro e w2 ⟨ac, cc, rfl, hr2, hk2⟩
  have HB2 := hide (HBA.out w2 ac cc hr2)
  have HK2 := hide (KO.on HK1.out hk2)
  have HR2 := hide hr2
  clear hr2 hk2 HC1 HK1 HBA
  go_wp2_with fail
  refine HB2.out.mono ?_
  rintro e w2' ⟨rfl, rfl⟩
  have HRR := hide (HR.out w2 ac cc HR2.out)
  clear HB2 HR
  go_wp2_with fail
  refine HRR.out.mono ?_
  rintro e w3 ⟨al, cl, at', ct, rfl, hj3⟩
  have HS3 := hide (HS.out w3 ac cc (HR2.out.below hj3.bel))
  have HJ3 := hide hj3
  clear hj3 HRR HS
  go_wp2_with fail
  refine HS3.out.mono ?_
  rintro e w4 ⟨sa, cs, rfl, hso, hb4⟩
  have hsm : ss.length <= maxLen := by obtain ⟨hs, h1⟩ := hso; exact h1.small
  unfold maxLen at hsm
  have HL0 : Hid (LPV w2 w4 w3.heap.size (.slice al n cl) (.slice at' n ct) n (WK 0 0) ty (.slice sa ss.length cs) ss) := hide ⟨owns_below HJ3.out.oa hb4, owns_below HJ3.out.ob hb4, HJ3.out.ne, fun g hg => by
   rcases hg with hg | hg
   ·exact (HJ3.out.oa.lt g hg).2
   ·exact (HJ3.out.ob.lt g hg).2, hso, KO.on HJ3.out.bel hb4⟩
  obtain ⟨B, hB⟩ : ∃ B, w3.heap.size = B := ⟨_, rfl⟩
  rw [hB] at HL0
  clear hso hb4 hB HJ3 HS3 HR2
  generalize hN : ss.length = N at *
  have HN := hide hN
  clear hN
  go_wp2
  go_loopw [14] (fun s14 wr => ∃ j : Nat, j <= N /\ s14 = .int .i64 (j : Int) /\ Hid (LPV w2 wr B (.slice al n cl) (.slice at' n ct) n (WK j 0) ty (.slice sa N cs) ss)) (fun s14 _ => N - (intOf s14).toNat)
  case atStart => exact ⟨0, Nat.zero_le _, rfl, HL0⟩
  case round =>
   obtain ⟨j, hj, rfl, hm⟩ := hrel
   by_cases hlt : j < N
   ·have hn0 := HPOS.out j hlt
    obtain ⟨g, cl2, eg, _, _⟩ := owns_pos hm.out.ow hn0
    obtain ⟨gt, ct2, et, _, _⟩ := owns_pos hm.out.ot hn0
    simp only [Value.slice.injEq, true_and] at eg et
    obtain ⟨rfl, rfl⟩ := eg
    obtain ⟨rfl, rfl⟩ := et
    have hjs : j < ss.length := by rw [HN.out]; exact hlt
    have hin : (j : Int) < (N : Int) := by omega
    have HLJ := hide hm.out.toW
    obtain ⟨hs, hso⟩ := hm.out.so
    rw [<- HN.out] at hso
    obtain ⟨gj, cj, hs1⟩ := hso.one hjs
    obtain ⟨g0, rfl, hg0, c0, c1, c2, c3⟩ := hs1.pos
    have hb0 := (hso.oa.lt g0 rfl).1
    have HRJ := hide hs1.row
    have hgj := hs1.le
    have HGJ := hide (HG.out j hlt)
    have HWJ := hide (fun m hm => HWS.out j m hlt hm)
    have HWX := hide (HWN.out j hlt)
    have HIJ := hide (HIN.out j hlt)
    have hsh := HSH.out j hlt
    have hbt := HLJ.out.lt
    generalize hse : ss.getD j default = s at *
    obtain ⟨ps, x, y, z⟩ := s
    simp only at *
    generalize hnp : ps.length = np at *
    have HNP := hide hnp
    clear hse hm hso hs1 HL0 hnp
    have HSQ := hide (HSE.out (some ⟨gt, 0, none⟩) ct ty wr gj np cj ps x y z (KO.on HK2.out HLJ.out.bel) HLJ.out.types HRJ.out HIJ.out HGJ.out hsh)
    have HBL := hide (HLJ.out.ow.lt g rfl).2
    have HC0 := hide c0
    generalize Rn.F13 (Rn.pk l ps) (Rn.pk ty ps) x y z = L5 at *
    clear HGJ
    go_wp2_with fail
    refine HSQ.out.mono ?_
    rintro e w5 ⟨a5, c5, rfl, hr5, hk5, hf5⟩
    have HI0 := hide (show LPW w2 w5 B g gt n cl ct (WK j 0) ty (.slice (some ⟨g0, 0, none⟩) N cs) ss /\ Row .i64 w5 a5 np c5 L5 /\ Row .i64 w5 (some ⟨gj, 0, none⟩) np cj (Rn.zs ps) /\ w5.cell? ⟨g0, j * 4, none⟩ = some (.slice (some ⟨gj, 0, none⟩) np cj) from ⟨HLJ.out.keep hk5, hr5, HRJ.out.below hk5, (Below.cell hk5 (by exact hg0)).trans HC0.out⟩)
    have HFR := hide hf5
    clear hr5 hk5 hf5 HSQ c0 c1 c2 c3 HC0 HLJ HRJ
    go_wp2
    go_loopw [16] (fun s16 wz => ∃ m : Nat, m <= np /\ s16 = .int .i64 (m : Int) /\ Hid (LPW w2 wz B g gt n cl ct (WK j m) ty (.slice (some ⟨g0, 0, none⟩) N cs) ss /\ Row .i64 wz a5 np c5 L5 /\ Row .i64 wz (some ⟨gj, 0, none⟩) np cj (Rn.zs ps) /\ wz.cell? ⟨g0, j * 4, none⟩ = some (.slice (some ⟨gj, 0, none⟩) np cj))) (fun s16 _ => np - (intOf s16).toNat)
    case atStart => exact ⟨0, Nat.zero_le _, rfl, HI0⟩
    case round =>
     rename World => wz
     obtain ⟨m, hm, rfl, HI⟩ := hrel
     by_cases hmn : m < np
     ·have hmi : (m : Int) < (np : Int) := by omega
      have hml : m < ps.length := by rw [HNP.out]; exact hmn
      have hpl := HIJ.out _ (Rn.getD_mem hml)
      have ca := rowAt HI.out.2.2.1 (KO.refl _) m hmn
      rw [Nat.zero_add, zs_at ps hml] at ca
      obtain ⟨b5, o5, e5, hb5, hc5⟩ := HI.out.2.1.cells (by omega)
      have cb := hc5 m (by rw [HI.out.2.1.len]; exact hmn)
      obtain ⟨cd, fd⟩ := HI.out.1.cell hpl
      have ce := HI.out.2.2.2
      have HI2 : Hid (LPW w2 (wz.setCell ⟨g, ps.getD m 0, none⟩ (.int .i64 (L5.getD m 0))) B g gt n cl ct (WK j (m + 1)) ty (.slice (some ⟨g0, 0, none⟩) N cs) ss /\ Row .i64 (wz.setCell ⟨g, ps.getD m 0, none⟩ (.int .i64 (L5.getD m 0))) a5 np c5 L5 /\ Row .i64 (wz.setCell ⟨g, ps.getD m 0, none⟩ (.int .i64 (L5.getD m 0))) (some ⟨gj, 0, none⟩) np cj (Rn.zs ps) /\ (wz.setCell ⟨g, ps.getD m 0, none⟩ (.int .i64 (L5.getD m 0))).cell? ⟨g0, j * 4, none⟩ = some (.slice (some ⟨gj, 0, none⟩) np cj)) := by
       refine hide ⟨?_, fresh_apart HI.out.2.1 HFR.out HBL.out _ _, row_apart HI.out.2.2.1 (by omega) _ _, ?_⟩
       ·rw [<- HWJ.out m hmn]
        exact HI.out.1.set _ _
       ·rw [World.cell?_setCell_other _ _ _ _ (fun e => by simp only [Addr.mk.injEq] at e; omega)]
        exact ce
      subst e5
      have hpi : ((ps.getD m 0 : Nat) : Int) < (n : Int) := by omega
      clear hc5 HI HI0
      generalize L5.getD m 0 = v5 at *
      generalize (WK j m).getD (ps.getD m 0) 0 = v0 at *
      generalize ps.getD m 0 = pm at *
      go_wp2
      go_region
      go_wp2
      go_roundw
      case rel => exact ⟨m + 1, by omega, by go_num, hide ⟨HI2.out.1.keep (KO.drew (KO.refl _)), HI2.out.2.1.below (KO.drew (KO.refl _)), HI2.out.2.2.1.below (KO.drew (KO.refl _)), HI2.out.2.2.2⟩⟩
      case measure => simp [intOf]; omega
     ·obtain rfl : m = np := by omega
      have hne2 : ¬ ((m : Int) < (m : Int)) := by omega
      have HJ2 := HI.out.1
      rw [HWX.out] at HJ2
      have HJ3 := hide HJ2.toV
      clear HJ2 HI HI0
      go_wp2
      go_roundw
      case rel => exact ⟨j + 1, by omega, by go_num, HJ3⟩
      case measure => simp [intOf]; omega
   ·obtain rfl : j = N := by omega
    have hne : ¬ ((j : Int) < (j : Int)) := by omega
    obtain ⟨a6, c6, e6, r6⟩ := row_of_owns hm.out.ow
    simp only [Value.slice.injEq, true_and] at e6
    obtain ⟨rfl, rfl⟩ := e6
    have HE := hide (show Row .i64 wr al n cl (WK ss.length 0) /\ KO w wr from ⟨by rw [HN.out]; exact r6, KO.on HK2.out hm.out.bel⟩)
    clear hm r6
    go_wp2
    go_ret3
    exact ⟨_, _, rfl, HE.out.1, HE.out.2⟩
 ·obtain rfl := hbl.symm
  clear HBA hbl
  have hbq : (b == -1) = false := beq_false_of_ne hb1
  go_enter Tryz.func16, Tryz.ntmps16
  go_wp2_with fail
  refine HWR.out.mono ?_
  rintro e w1 ⟨rfl, hk1⟩
  have HC1 := hide (HC.out w1 hk1)
  have HK1 := hide hk1
  clear hk1 HWR HC
  go_wp2_with fail
  refine HC1.out.mono ?_
  rintro e w2 ⟨ac, cc, rfl, hr2, hk2⟩
  have HK2 := hide (KO.on HK1.out hk2)
  have HR2 := hide hr2
  have HRR := hide (HR.out w2 ac cc hr2)
  clear hr2 hk2 HC1 HK1 HR
  go_wp2_with fail
  refine HRR.out.mono ?_
  rintro e w3 ⟨al, cl, at', ct, rfl, hj3⟩
  have HS3 := hide (HS.out w3 ac cc (HR2.out.below hj3.bel))
  have HJ3 := hide hj3
  clear hj3 HRR HS
  go_wp2_with fail
  refine HS3.out.mono ?_
  rintro e w4 ⟨sa, cs, rfl, hso, hb4⟩
  have hsm : ss.length <= maxLen := by obtain ⟨hs, h1⟩ := hso; exact h1.small
  unfold maxLen at hsm
  have HL0 : Hid (LPV w2 w4 w3.heap.size (.slice al n cl) (.slice at' n ct) n (WK 0 0) ty (.slice sa ss.length cs) ss) := hide ⟨owns_below HJ3.out.oa hb4, owns_below HJ3.out.ob hb4, HJ3.out.ne, fun g hg => by
   rcases hg with hg | hg
   ·exact (HJ3.out.oa.lt g hg).2
   ·exact (HJ3.out.ob.lt g hg).2, hso, KO.on HJ3.out.bel hb4⟩
  obtain ⟨B, hB⟩ : ∃ B, w3.heap.size = B := ⟨_, rfl⟩
  rw [hB] at HL0
  clear hso hb4 hB HJ3 HS3 HR2
  generalize hN : ss.length = N at *
  have HN := hide hN
  clear hN
  go_wp2
  go_loopw [14] (fun s14 wr => ∃ j : Nat, j <= N /\ s14 = .int .i64 (j : Int) /\ Hid (LPV w2 wr B (.slice al n cl) (.slice at' n ct) n (WK j 0) ty (.slice sa N cs) ss)) (fun s14 _ => N - (intOf s14).toNat)
  case atStart => exact ⟨0, Nat.zero_le _, rfl, HL0⟩
  case round =>
   obtain ⟨j, hj, rfl, hm⟩ := hrel
   by_cases hlt : j < N
   ·have hn0 := HPOS.out j hlt
    obtain ⟨g, cl2, eg, _, _⟩ := owns_pos hm.out.ow hn0
    obtain ⟨gt, ct2, et, _, _⟩ := owns_pos hm.out.ot hn0
    simp only [Value.slice.injEq, true_and] at eg et
    obtain ⟨rfl, rfl⟩ := eg
    obtain ⟨rfl, rfl⟩ := et
    have hjs : j < ss.length := by rw [HN.out]; exact hlt
    have hin : (j : Int) < (N : Int) := by omega
    have HLJ := hide hm.out.toW
    obtain ⟨hs, hso⟩ := hm.out.so
    rw [<- HN.out] at hso
    obtain ⟨gj, cj, hs1⟩ := hso.one hjs
    obtain ⟨g0, rfl, hg0, c0, c1, c2, c3⟩ := hs1.pos
    have hb0 := (hso.oa.lt g0 rfl).1
    have HRJ := hide hs1.row
    have hgj := hs1.le
    have HGJ := hide (HG.out j hlt)
    have HWJ := hide (fun m hm => HWS.out j m hlt hm)
    have HWX := hide (HWN.out j hlt)
    have HIJ := hide (HIN.out j hlt)
    have hsh := HSH.out j hlt
    have hbt := HLJ.out.lt
    generalize hse : ss.getD j default = s at *
    obtain ⟨ps, x, y, z⟩ := s
    simp only at *
    generalize hnp : ps.length = np at *
    have HNP := hide hnp
    clear hse hm hso hs1 HL0 hnp
    have HSQ := hide (HSE.out (some ⟨gt, 0, none⟩) ct ty wr gj np cj ps x y z (KO.on HK2.out HLJ.out.bel) HLJ.out.types HRJ.out HIJ.out HGJ.out hsh)
    have HBL := hide (HLJ.out.ow.lt g rfl).2
    have HC0 := hide c0
    generalize Rn.F13 (Rn.pk l ps) (Rn.pk ty ps) x y z = L5 at *
    clear HGJ
    go_wp2_with fail
    refine HSQ.out.mono ?_
    rintro e w5 ⟨a5, c5, rfl, hr5, hk5, hf5⟩
    have HI0 := hide (show LPW w2 w5 B g gt n cl ct (WK j 0) ty (.slice (some ⟨g0, 0, none⟩) N cs) ss /\ Row .i64 w5 a5 np c5 L5 /\ Row .i64 w5 (some ⟨gj, 0, none⟩) np cj (Rn.zs ps) /\ w5.cell? ⟨g0, j * 4, none⟩ = some (.slice (some ⟨gj, 0, none⟩) np cj) from ⟨HLJ.out.keep hk5, hr5, HRJ.out.below hk5, (Below.cell hk5 (by exact hg0)).trans HC0.out⟩)
    have HFR := hide hf5
    clear hr5 hk5 hf5 HSQ c0 c1 c2 c3 HC0 HLJ HRJ
    go_wp2
    go_loopw [16] (fun s16 wz => ∃ m : Nat, m <= np /\ s16 = .int .i64 (m : Int) /\ Hid (LPW w2 wz B g gt n cl ct (WK j m) ty (.slice (some ⟨g0, 0, none⟩) N cs) ss /\ Row .i64 wz a5 np c5 L5 /\ Row .i64 wz (some ⟨gj, 0, none⟩) np cj (Rn.zs ps) /\ wz.cell? ⟨g0, j * 4, none⟩ = some (.slice (some ⟨gj, 0, none⟩) np cj))) (fun s16 _ => np - (intOf s16).toNat)
    case atStart => exact ⟨0, Nat.zero_le _, rfl, HI0⟩
    case round =>
     rename World => wz
     obtain ⟨m, hm, rfl, HI⟩ := hrel
     by_cases hmn : m < np
     ·have hmi : (m : Int) < (np : Int) := by omega
      have hml : m < ps.length := by rw [HNP.out]; exact hmn
      have hpl := HIJ.out _ (Rn.getD_mem hml)
      have ca := rowAt HI.out.2.2.1 (KO.refl _) m hmn
      rw [Nat.zero_add, zs_at ps hml] at ca
      obtain ⟨b5, o5, e5, hb5, hc5⟩ := HI.out.2.1.cells (by omega)
      have cb := hc5 m (by rw [HI.out.2.1.len]; exact hmn)
      obtain ⟨cd, fd⟩ := HI.out.1.cell hpl
      have ce := HI.out.2.2.2
      have HI2 : Hid (LPW w2 (wz.setCell ⟨g, ps.getD m 0, none⟩ (.int .i64 (L5.getD m 0))) B g gt n cl ct (WK j (m + 1)) ty (.slice (some ⟨g0, 0, none⟩) N cs) ss /\ Row .i64 (wz.setCell ⟨g, ps.getD m 0, none⟩ (.int .i64 (L5.getD m 0))) a5 np c5 L5 /\ Row .i64 (wz.setCell ⟨g, ps.getD m 0, none⟩ (.int .i64 (L5.getD m 0))) (some ⟨gj, 0, none⟩) np cj (Rn.zs ps) /\ (wz.setCell ⟨g, ps.getD m 0, none⟩ (.int .i64 (L5.getD m 0))).cell? ⟨g0, j * 4, none⟩ = some (.slice (some ⟨gj, 0, none⟩) np cj)) := by
       refine hide ⟨?_, fresh_apart HI.out.2.1 HFR.out HBL.out _ _, row_apart HI.out.2.2.1 (by omega) _ _, ?_⟩
       ·rw [<- HWJ.out m hmn]
        exact HI.out.1.set _ _
       ·rw [World.cell?_setCell_other _ _ _ _ (fun e => by simp only [Addr.mk.injEq] at e; omega)]
        exact ce
      subst e5
      have hpi : ((ps.getD m 0 : Nat) : Int) < (n : Int) := by omega
      clear hc5 HI HI0
      generalize L5.getD m 0 = v5 at *
      generalize (WK j m).getD (ps.getD m 0) 0 = v0 at *
      generalize ps.getD m 0 = pm at *
      go_wp2
      go_region
      go_wp2
      go_roundw
      case rel => exact ⟨m + 1, by omega, by go_num, hide ⟨HI2.out.1.keep (KO.drew (KO.refl _)), HI2.out.2.1.below (KO.drew (KO.refl _)), HI2.out.2.2.1.below (KO.drew (KO.refl _)), HI2.out.2.2.2⟩⟩
      case measure => simp [intOf]; omega
     ·obtain rfl : m = np := by omega
      have hne2 : ¬ ((m : Int) < (m : Int)) := by omega
      have HJ2 := HI.out.1
      rw [HWX.out] at HJ2
      have HJ3 := hide HJ2.toV
      clear HJ2 HI HI0
      go_wp2
      go_roundw
      case rel => exact ⟨j + 1, by omega, by go_num, HJ3⟩
      case measure => simp [intOf]; omega
   ·obtain rfl : j = N := by omega
    have hne : ¬ ((j : Int) < (j : Int)) := by omega
    obtain ⟨a6, c6, e6, r6⟩ := row_of_owns hm.out.ow
    simp only [Value.slice.injEq, true_and] at e6
    obtain ⟨rfl, rfl⟩ := e6
    have HE := hide (show Row .i64 wr al n cl (WK ss.length 0) /\ KO w wr from ⟨by rw [HN.out]; exact r6, KO.on HK2.out hm.out.bel⟩)
    clear hm r6
    go_wp2
    go_ret3
    exact ⟨_, _, rfl, HE.out.1, HE.out.2⟩
theorem rparagraph12_any (ao : Option Addr) (n cap : Nat) (l : List Int) (base : Int) (w : World) (h : Row .i32 w ao n cap l) (hf : ∀ x ∈ l, (Lit.int .i32 x).wf = true) (hn : n <= 300 \/ 4096 < n) (m : Int) (L : List Int) (E : Int) (hA : Rn.PA l base m L E) :
  Calls Tryz.prog 16 #[.slice ao n cap, .int .i64 base] w (RPA w m L E) := by
 have hl := h.len
 have hbad : ∀ E, ¬ E = 0 -> WA12 l base E -> Calls Tryz.prog 16 #[.slice ao n cap, .int .i64 base] w (RPA w 0 [] E) := by
  intro E hE hW
  have HWR := hide (rwrong12_any ao n cap l base E w h hf hW)
  have hEb : (E != 0) = true := bne_iff_ne.2 hE
  clear h hf hW hl hA hn
  go_enter Tryz.func16, Tryz.ntmps16
  go_wp2_with fail
  refine HWR.out.mono ?_
  rintro e w1 ⟨rfl, hk1⟩
  have HK := hide hk1
  clear hk1 HWR
  go_wp2
  go_ret3
  exact RPA.err HK.out
 rcases hA with ⟨hb, rfl, rfl, rfl⟩ | ⟨hb, h2, rfl, rfl, rfl⟩ | ⟨hb, h2, h3, rfl, rfl, rfl⟩ | ⟨hb, h2, h3, rfl, rfl, rfl⟩
 ·exact hbad 2 (by decide) (.inl ⟨hb, rfl⟩)
 ·exact hbad 3 (by decide) (.inr (.inl ⟨hb, h2, rfl⟩))
 ·exact hbad 50 (by decide) (.inr (.inr (.inl ⟨hb, by omega, h3, rfl⟩)))
 ·exact rparagraph12_ok ao none n cap 0 l base w h hf (by omega) hb h3
end Go.Proofs.YtfcoebbblfcdoaaGreatDoor

/- The document's visual order, by contract. -/
namespace Go.Proofs.YtfcoebbblfcdoaaGreatDoor
open Go.RowKit
set_option linter.unusedVariables false
set_option maxHeartbeats 1000000
set_option maxRecDepth 100000
namespace Od
theorem ls_step {lv : List Int} {i k : Nat} (h : i <= k) : ls lv i (k + 1 - 1 - i) = if 0 <= lv.getD k 0 /\ lv.getD k 0 < ls lv i (k - 1 - i) then lv.getD k 0 else ls lv i (k - 1 - i) := by
 by_cases e : k = i
 ·subst e
  rw [show k + 1 - 1 - k = 0 by omega, show k - 1 - k = 0 by omega, ls]
  rw [if_neg (by omega)]
 ·obtain ⟨d, rfl⟩ : ∃ d, k = i + (d + 1) := ⟨k - 1 - i, by omega⟩
  rw [show i + (d + 1) + 1 - 1 - i = d + 1 by omega, show i + (d + 1) - 1 - i = d by omega, ls]
theorem cnt_same {lv : List Int} {i k : Nat} (h : ¬ (sn lv k = true /\ Lf lv k i)) : cnt lv i (k + 1) = cnt lv i k := by rw [cnt, if_neg h]
theorem cnt_more {lv : List Int} {i k : Nat} (h : sn lv k = true /\ Lf lv k i) : cnt lv i (k + 1) = cnt lv i k + 1 := by rw [cnt, if_pos h]
theorem cnt_le (lv : List Int) (i : Nat) : ∀ k, cnt lv i k <= k
 | 0 => Nat.le_refl _
 | k + 1 => by
  have := cnt_le lv i k
  rw [cnt]
  split <;> omega
theorem Lf_self {lv : List Int} {i : Nat} : ¬ Lf lv i i := fun h => Lf_asymm h h
theorem Lf_up {lv : List Int} {i j : Nat} (h : i < j) : Lf lv i j ↔ le lv i j % 2 = 0 := by
 unfold Lf
 by_cases hp : le lv i j % 2 = 0
 ·rw [if_pos hp]; exact ⟨fun _ => hp, fun _ => h⟩
 ·rw [if_neg hp]; exact ⟨fun q => by omega, fun q => absurd q hp⟩
theorem Lf_down {lv : List Int} {i j : Nat} (h : j < i) : Lf lv i j ↔ ¬ le lv j i % 2 = 0 := by
 unfold Lf
 rw [le_comm i j]
 by_cases hp : le lv j i % 2 = 0
 ·rw [if_pos hp]; exact ⟨fun q => by omega, fun q => absurd hp q⟩
 ·rw [if_neg hp]; exact ⟨fun _ => hp, fun _ => h⟩
end Od
theorem orformed_any (ao : Option Addr) (n cap : Nat) (l : List Int) (w : World) (h : Row .i64 w ao n cap l) :
  Calls Tryz.prog 36 #[.slice ao n cap] w fun e w' => e = .returned (.bool (decide (Od.Fo l))) /\ w = w' := by
 have hmx : n <= maxLen := Nat.le_trans h.le h.max
 unfold maxLen at hmx
 have H := hide h
 have HL := hide h.len
 clear h
 go_enter Tryz.func36, Tryz.ntmps36
 go_wp2
 go_loopw [3] (fun i wr => ∃ k : Nat, k <= n /\ i = .int .i64 (k : Int) /\ Hid (∀ j, j < k -> -1 <= l.getD j 0 /\ l.getD j 0 <= 127) /\ wr = w) (fun i _ => n - (intOf i).toNat)
 case atStart => exact ⟨0, Nat.zero_le _, rfl, hide (fun j hj => absurd hj (Nat.not_lt_zero _)), rfl⟩
 case round =>
  obtain ⟨k, hk, rfl, hall, rfl⟩ := hrel
  by_cases hlt : k < n
  ·obtain ⟨b, off, rfl, hbl, hc⟩ := H.out.cells (by omega)
   have hkl : k < l.length := by rw [HL.out]; exact hlt
   have ck := hc k hkl
   have HX : Hid (∀ x, l.getD k 0 = x -> (-1 <= x /\ x <= 127) -> ∀ j, j < k + 1 -> -1 <= l.getD j 0 /\ l.getD j 0 <= 127) := hide (fun x hx hr j hj => by
    by_cases e : j = k
    ·subst e; rw [hx]; exact hr
    ·exact hall.out j (by omega))
   have HN : Hid (∀ x, l.getD k 0 = x -> ¬ (-1 <= x /\ x <= 127) -> decide (Od.Fo l) = false) := hide (fun x hx hr => decide_eq_false (fun q => hr (by rw [<- hx]; exact q k hkl)))
   have hin : (k : Int) < (n : Int) := by omega
   clear hc hall
   generalize hx : l.getD k 0 = x at ck
   have HX2 := hide (HX.out x hx)
   have HN2 := hide (HN.out x hx)
   clear HX HN hx
   by_cases h1 : x < -1
   ·have HN3 := hide (HN2.out (by omega))
    go_wp2
    go_ret
    exact ⟨ret_bool HN3.out.symm, rfl⟩
   ·by_cases h2 : 127 < x
    ·have HN3 := hide (HN2.out (by omega))
     go_wp2
     go_ret
     exact ⟨ret_bool HN3.out.symm, rfl⟩
    ·have HX3 := hide (HX2.out ⟨by omega, by omega⟩)
     go_wp2
     go_roundw
     case rel => exact ⟨k + 1, by omega, by go_num, HX3, by first | rfl | trivial⟩
     case measure => simp [intOf]; omega
  ·obtain rfl : k = n := by omega
   have hne : ¬ ((k : Int) < (k : Int)) := by omega
   have HF : Hid (decide (Od.Fo l) = true) := hide (decide_eq_true (fun i hi => hall.out i (by rw [HL.out] at hi; exact hi)))
   clear hall
   go_wp2
   go_ret
   exact ⟨ret_bool HF.out.symm, rfl⟩
theorem rleft_up (ao : Option Addr) (n cap i j : Nat) (l : List Int) (w : World) (h : Row .i64 w ao n cap l) (hij : i <= j) (hj : j < n) (hi0 : 0 <= l.getD i 0) (hj0 : 0 <= l.getD j 0) :
  Calls Tryz.prog 66 #[.slice ao n cap, .int .i64 (i : Int), .int .i64 (j : Int)] w fun e w' => e = .returned (.bool (decide (Od.le l i j % 2 = 0))) /\ w = w' := by
 have hmx : n <= maxLen := Nat.le_trans h.le h.max
 unfold maxLen at hmx
 have HE : Hid (Od.ls l i (j + 1 - 1 - i) = Od.le l i j) := hide (by unfold Od.le; rw [if_pos hij, Nat.add_sub_cancel])
 have HP : Hid (0 <= Od.le l i j) := hide (Od.le_ge hi0 hj0 fun z _ q => q)
 have HL := hide h.len
 obtain ⟨b, off, rfl, hbl, hc⟩ := h.cells (by omega)
 have hle1 := h.le
 have HC := hide hc
 have ci := hc i (by rw [h.len]; omega)
 have hin0 : (i : Int) < (n : Int) := by omega
 have hng : ¬ (j : Int) < (i : Int) := by omega
 have HS : Hid (Od.ls l i (i - 1 - i) = l.getD i 0) := hide (by rw [show i - 1 - i = 0 by omega, Od.ls])
 clear h hc hi0 hj0
 generalize hx0 : l.getD i 0 = x0 at ci
 rw [hx0] at HS
 clear hx0
 go_enter Tryz.func66, Tryz.ntmps66
 go_wp2
 go_loopw [7, 8] (fun s7 s8 W => ∃ (k : Nat) (y : Int), s8 = .int .i64 (k : Int) /\ i <= k /\ k <= j + 1 /\ s7 = .int .i64 y /\ Hid (Od.ls l i (k - 1 - i) = y) /\ w = W) (fun _ s8 _ => j + 1 - (intOf s8).toNat)
 case atStart => exact ⟨i, x0, rfl, Nat.le_refl _, by omega, rfl, HS, rfl⟩
 case round =>
  obtain ⟨k, y, rfl, hik, hkj, rfl, hy, rfl⟩ := hrel
  by_cases hlt : k <= j
  ·have ck := HC.out k (by rw [HL.out]; omega)
   have hst := Od.ls_step (lv := l) hik
   rw [hy.out] at hst
   have hin : (k : Int) < (n : Int) := by omega
   have hle2 : (k : Int) <= (j : Int) := by omega
   clear ci
   generalize l.getD k 0 = x at ck hst
   by_cases h1 : 0 <= x
   ·by_cases h2 : x < y
    ·rw [if_pos ⟨h1, h2⟩] at hst
     have HY := hide hst
     clear hst hy
     go_wp2
     go_roundw
     case rel => exact ⟨k + 1, x, by go_num, by omega, by omega, rfl, HY, by first | rfl | trivial⟩
     case measure => simp [intOf]; omega
    ·rw [if_neg (fun q => h2 q.2)] at hst
     have HY := hide hst
     clear hst hy
     go_wp2
     go_roundw
     case rel => exact ⟨k + 1, y, by go_num, by omega, by omega, rfl, HY, by first | rfl | trivial⟩
     case measure => simp [intOf]; omega
   ·rw [if_neg (fun q => h1 q.1)] at hst
    have HY := hide hst
    clear hst hy
    go_wp2
    go_roundw
    case rel => exact ⟨k + 1, y, by go_num, by omega, by omega, rfl, HY, by first | rfl | trivial⟩
    case measure => simp [intOf]; omega
  ·obtain rfl : k = j + 1 := by omega
   have hle2 : ¬ ((j + 1 : Nat) : Int) <= (j : Int) := by omega
   have hy2 := hy.out
   rw [HE.out] at hy2
   have hp := HP.out
   rw [hy2] at hp
   have ht : y.tmod 2 = y % 2 := Int.tmod_eq_emod_of_nonneg hp
   have HR : Hid ((y % 2 == 0) = decide (Od.le l i j % 2 = 0)) := hide (by rw [hy2, Bool.eq_iff_iff]; simp)
   clear hy hy2 hp ci
   go_wp2
   go_ret
   exact ⟨ret_bool HR.out, rfl⟩
theorem rleft_any (ao : Option Addr) (n cap i j : Nat) (l : List Int) (w : World) (h : Row .i64 w ao n cap l) (hij : ¬ i = j) (hi : i < n) (hj : j < n) (hi0 : 0 <= l.getD i 0) (hj0 : 0 <= l.getD j 0) :
  Calls Tryz.prog 66 #[.slice ao n cap, .int .i64 (i : Int), .int .i64 (j : Int)] w fun e w' => e = .returned (.bool (decide (Od.Lf l i j))) /\ w = w' := by
 by_cases hlt : i < j
 ·refine (rleft_up ao n cap i j l w h (by omega) hj hi0 hj0).mono ?_
  rintro e w' ⟨rfl, rfl⟩
  refine ⟨ret_bool ?_, rfl⟩
  rw [decide_eq_decide]
  exact (Od.Lf_up hlt).symm
 ·have HA := hide (rleft_up ao n cap j i l w h (by omega) hi hj0 hi0)
  have hgt : (j : Int) < (i : Int) := by omega
  have HR : Hid ((!decide (Od.le l j i % 2 = 0)) = decide (Od.Lf l i j)) := hide (by
   rw [<- decide_not, decide_eq_decide]
   exact (Od.Lf_down (by omega)).symm)
  clear h hi0 hj0
  generalize decide (Od.le l j i % 2 = 0) = bb at *
  generalize decide (Od.Lf l i j) = cc at *
  go_enter Tryz.func66, Tryz.ntmps66
  go_wp2_with (go_at_call 66; refine HA.out.mono ?_; rintro e w' ⟨rfl, rfl⟩)
  go_ret
  exact ⟨ret_bool HR.out, rfl⟩
end Go.Proofs.YtfcoebbblfcdoaaGreatDoor

/- The document's Line, by contract. -/
namespace Go.Proofs.YtfcoebbblfcdoaaGreatDoor
open Go.RowKit
set_option linter.unusedVariables false
set_option maxHeartbeats 1000000
set_option maxRecDepth 100000
theorem rloose_any (x : Int) (w : World) : Calls Tryz.prog 64 #[.int .i64 x] w fun e w' => e = .returned (.bool (Od.loose x)) /\ w = w' := by
 have hl : ∀ {b : Bool}, (b = true ↔ (x = 13 \/ (20 <= x /\ x <= 23))) -> Od.loose x = b := fun h => Bool.eq_iff_iff.2 (Od.loose_iff.trans h.symm)
 by_cases h1 : x = 13
 ·subst h1
  go_enter Tryz.func64, Tryz.ntmps64
  go_wp2
  go_ret
  exact ⟨rfl, rfl⟩
 by_cases h2 : x = 20
 ·subst h2
  go_enter Tryz.func64, Tryz.ntmps64
  go_wp2
  go_ret
  exact ⟨rfl, rfl⟩
 by_cases h3 : x = 21
 ·subst h3
  go_enter Tryz.func64, Tryz.ntmps64
  go_wp2
  go_ret
  exact ⟨rfl, rfl⟩
 by_cases h4 : x = 22
 ·subst h4
  go_enter Tryz.func64, Tryz.ntmps64
  go_wp2
  go_ret
  exact ⟨rfl, rfl⟩
 have b1 : (x == 13) = false := beq_eq_false_iff_ne.2 h1
 have b2 : (x == 20) = false := beq_eq_false_iff_ne.2 h2
 have b3 : (x == 21) = false := beq_eq_false_iff_ne.2 h3
 have b4 : (x == 22) = false := beq_eq_false_iff_ne.2 h4
 have hs : Od.loose x = (x == 23) := hl (by rw [beq_iff_eq]; omega)
 rw [hs]
 go_enter Tryz.func64, Tryz.ntmps64
 go_wp2
 go_ret
 exact ⟨rfl, rfl⟩
theorem resets_any (ac al : Option Addr) (n cc cl i tq : Nat) (c l : List Int) (w : World) (hc : Row .i64 w ac n cc c) (hl : Row .i64 w al n cl l) (hi : i < tq) (hto : tq <= n) :
  Calls Tryz.prog 37 #[.slice ac n cc, .slice al n cl, .int .i64 (i : Int), .int .i64 (tq : Int)] w fun e w' => e = .returned (.bool (Od.rs c l i (tq - i))) /\ w = w' := by
 have hmx : n <= maxLen := Nat.le_trans hc.le hc.max
 unfold maxLen at hmx
 have HCl := hide hc.len
 have HLl := hide hl.len
 obtain ⟨bc, oc, rfl, hbc, hcc⟩ := hc.cells (by omega)
 obtain ⟨bl, ol, rfl, hbl, hcl⟩ := hl.cells (by omega)
 have HC := hide (fun j (hj : j < n) => hcc j (by rw [hc.len]; exact hj))
 have HL := hide (fun j (hj : j < n) => hcl j (by rw [hl.len]; exact hj))
 have HLO := hide (fun x W => rloose_any x W)
 have ci := hcc i (by rw [hc.len]; omega)
 have hin0 : (i : Int) < (n : Int) := by omega
 have HE : Hid (∀ x, c.getD i 0 = x -> Od.sep x = true -> Od.rs c l i (tq - i) = true) := hide (fun x hx hs => by
  rw [show tq - i = (tq - i - 1) + 1 by omega]
  exact Od.rs_sep (by rw [hx]; exact hs))
 have HSP : Hid (∀ x, c.getD i 0 = x -> x = x) := hide (fun _ _ => rfl)
 clear hc hl hcc hcl
 have hsep : ∀ x : Int, (x = 12 \/ x = 11) -> Od.sep x = true := fun x h => Od.sep_iff.2 h
 have hnsep : ∀ x : Int, ¬ x = 12 -> ¬ x = 11 -> Od.sep x = false := fun x h1 h2 => by rw [<- Bool.not_eq_true, Od.sep_iff]; omega
 have HS := hide hsep
 have HNS := hide hnsep
 clear hsep hnsep
 generalize hx : c.getD i 0 = x at ci
 have HE2 := hide (HE.out x hx)
 clear HE HSP hx
 by_cases h12 : x = 12
 ·have HR := hide (HE2.out (HS.out x (.inl h12)))
  subst h12
  generalize Od.rs c l i (tq - i) = rr at *
  go_enter Tryz.func37, Tryz.ntmps37
  go_wp2
  go_ret
  exact ⟨ret_bool HR.out.symm, rfl⟩
 by_cases h11 : x = 11
 ·have HR := hide (HE2.out (HS.out x (.inr h11)))
  subst h11
  generalize Od.rs c l i (tq - i) = rr at *
  go_enter Tryz.func37, Tryz.ntmps37
  go_wp2
  go_ret
  exact ⟨ret_bool HR.out.symm, rfl⟩
 have x1 : (x == 12) = false := beq_eq_false_iff_ne.2 h12
 have x2 : (x == 11) = false := beq_eq_false_iff_ne.2 h11
 obtain ⟨rr, hrr⟩ : ∃ rr, Od.rs c l i (tq - i) = rr := ⟨_, rfl⟩
 have HRR := hide hrr
 rw [hrr]
 clear HE2 hrr
 go_enter Tryz.func37, Tryz.ntmps37
 go_wp2
 clear ci x1 x2 h12 h11
 go_loopw [9] (fun s9 W => ∃ k : Nat, s9 = .int .i64 (k : Int) /\ i <= k /\ k <= tq /\ Hid (Od.rs c l i (tq - i) = Od.rs c l k (tq - k)) /\ w = W) (fun s9 _ => tq - (intOf s9).toNat)
 case atStart => exact ⟨i, rfl, Nat.le_refl _, by omega, hide rfl, rfl⟩
 case round =>
  obtain ⟨k, rfl, hik, hkt, hrs, rfl⟩ := hrel
  by_cases hlt : k < tq
  ·have hin : (k : Int) < (tq : Int) := by omega
   have hin2 : (k : Int) < (n : Int) := by omega
   have ck := HC.out k (by omega)
   have lk := HL.out k (by omega)
   obtain ⟨d, hd⟩ : ∃ d, tq - k = d + 1 := ⟨tq - k - 1, by omega⟩
   have hd2 : tq - (k + 1) = d := by omega
   have HQ := hide hrs.out
   rw [hd, HRR.out] at HQ
   by_cases s12 : c.getD k 0 = 12
   ·have HF : Hid (rr = true) := hide (by rw [HQ.out]; exact Od.rs_sep (HS.out _ (.inl s12)))
    rw [s12] at ck
    clear HQ hrs
    go_wp2
    go_ret
    exact ⟨ret_bool HF.out.symm, rfl⟩
   by_cases s11 : c.getD k 0 = 11
   ·have HF : Hid (rr = true) := hide (by rw [HQ.out]; exact Od.rs_sep (HS.out _ (.inr s11)))
    rw [s11] at ck
    clear HQ hrs
    go_wp2
    go_ret
    exact ⟨ret_bool HF.out.symm, rfl⟩
   have hsf := HNS.out _ s12 s11
   have s1 : (c.getD k 0 == 12) = false := beq_eq_false_iff_ne.2 s12
   have s2 : (c.getD k 0 == 11) = false := beq_eq_false_iff_ne.2 s11
   have HLK := hide (fun W => HLO.out (c.getD k 0) W)
   by_cases h0 : 0 <= l.getD k 0
   ·by_cases hlo : Od.loose (c.getD k 0) = true
    ·have HN : Hid (Od.rs c l i (tq - i) = Od.rs c l (k + 1) (tq - (k + 1))) := hide (by
      rw [hrs.out, hd, hd2]
      exact Od.rs_on hsf (fun q => by rw [hlo] at q; cases q.2))
     rw [hlo] at HLK
     clear HQ hrs hsf hlo
     generalize l.getD k 0 = y at lk h0
     generalize c.getD k 0 = x at *
     go_wp2_with (go_at_call 64; refine (HLK.out _).mono ?_; rintro e w' ⟨rfl, rfl⟩)
     go_roundw
     case rel => exact ⟨k + 1, by go_num, by omega, by omega, HN, by first | rfl | trivial⟩
     case measure => simp [intOf]; omega
    ·have hlf := (Bool.not_eq_true _).mp hlo
     have HF : Hid (rr = false) := hide (by rw [HQ.out]; exact Od.rs_stop hsf h0 hlf)
     rw [hlf] at HLK
     clear HQ hrs hsf hlo hlf
     generalize l.getD k 0 = y at lk h0
     generalize c.getD k 0 = x at *
     go_wp2_with (go_at_call 64; refine (HLK.out _).mono ?_; rintro e w' ⟨rfl, rfl⟩)
     go_ret
     exact ⟨ret_bool HF.out.symm, rfl⟩
   ·have HN : Hid (Od.rs c l i (tq - i) = Od.rs c l (k + 1) (tq - (k + 1))) := hide (by
     rw [hrs.out, hd, hd2]
     exact Od.rs_on hsf (fun q => h0 q.1))
    clear HQ hrs hsf
    generalize l.getD k 0 = y at lk h0
    generalize c.getD k 0 = x at *
    go_wp2
    go_roundw
    case rel => exact ⟨k + 1, by go_num, by omega, by omega, HN, by first | rfl | trivial⟩
    case measure => simp [intOf]; omega
  ·obtain rfl : tq = k := by omega
   have hne : ¬ (tq : Int) < (tq : Int) := by omega
   have HF : Hid (rr = true) := hide (by rw [<- HRR.out, hrs.out, Nat.sub_self]; exact Od.rs_end _)
   clear hrs
   go_wp2
   go_ret
   exact ⟨ret_bool HF.out.symm, rfl⟩
end Go.Proofs.YtfcoebbblfcdoaaGreatDoor
