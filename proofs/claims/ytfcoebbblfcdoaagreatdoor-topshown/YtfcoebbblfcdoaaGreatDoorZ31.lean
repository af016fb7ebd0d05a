import Derived.Test.YtfcoebbblfcdoaaGreatDoorZ29
import Derived.Test.YtfcoebbblfcdoaaGreatDoorZ30
import Derived.Deep.Cut
import Derived.Deep.RegionWith
import Derived.Test.YtfcoebbblfcdoaaGreatDoorZ07
import Derived.Test.YtfcoebbblfcdoaaGreatDoorRows
import Derived.Test.YtfcoebbblfcdoaaGreatDoorZ16
import Derived.Test.YtfcoebbblfcdoaaGreatDoorZ01
import Derived.Test.YtfcoebbblfcdoaaGreatDoorZ17
import Derived.WalkKit
import Derived.WalkSpells
import Derived.WalkLawsBesides
import Derived.Outline
import Derived.Great.BuildSlice
import Derived.Test.YtfcoebbblfcdoaaGreatDoorZ18
import Derived.Laws.AppendOwn
import Derived.Test.YtfcoebbblfcdoaaGreatDoorZ25
import Derived.Test.YtfcoebbblfcdoaaGreatDoorZ12
/- The levels of a paragraph's places. -/
namespace Go.Proofs.YtfcoebbblfcdoaaGreatDoor
open Go.RowKit
set_option linter.unusedVariables false
set_option maxHeartbeats 2000000
set_option maxRecDepth 100000
theorem SO.small {B : Nat} {w : World} {v : Value} {hs : List (Nat × Nat)} {ss : List Rn.Sq} (h : SO B w v hs ss) : ss.length <= maxLen := by
 rcases h.oa.2 with ⟨_, h0⟩ | ⟨g, cap, cur, _, _, _, hle, hm, _⟩
 ·rw [h0]; exact Nat.zero_le _
 ·omega
theorem placeLevels_form (ao ac : Option Addr) (n cap cc : Nat) (l : List Int) (b : Int) (w : World) (hc : Row .i64 w ac n cc (Rn.cl l)) (hn : n * 8 <= 140737488351232) (hb : b = 0 \/ b = 1) (hF : ¬ Ex.Formed (Rn.cl l)) :
  Calls Tryz.prog 42 #[.slice ao n cap, .slice ac n cc, .int .i64 b] w fun e w' => e = .returned (.tuple #[.slice none 0 0, .int .i64 50]) /\ w = w' := by
 have HR := hide (resolve_form ac n cc (Rn.cl l) b w hc hn hb hF)
 clear hc hn hb hF
 go_enter Tryz.func42, Tryz.ntmps42
 go_wp2_with (go_at_call 69; refine HR.out.mono ?_; rintro e w' ⟨rfl, rfl⟩)
 go_ret2
 exact ⟨rfl, rfl⟩
theorem placeLevels_any (ao ac : Option Addr) (n cap cc : Nat) (l : List Int) (b : Int) (w : World) (h : Row .i32 w ao n cap l) (hc : Row .i64 w ac n cc (Rn.cl l)) (hf : ∀ x ∈ l, (Lit.int .i32 x).wf = true) (hm : Marks w) (hn : n <= 2000) (hb : b = 0 \/ b = 1) (hF : Ex.Formed (Rn.cl l)) :
  Calls Tryz.prog 42 #[.slice ao n cap, .slice ac n cc, .int .i64 b] w fun e w' => ∃ a1 c1, e = .returned (.tuple #[.slice a1 n c1, .int .i64 0]) /\ Row .i64 w' a1 n c1 (Rn.VS l b) /\ KO w w' := by
 have hlen := h.len
 have hcl : (Rn.cl l).length = n := by rw [Rn.cl_len, hlen]
 have HR := hide (resolve_own ac n cc (Rn.cl l) b w hc (by omega) hb hF)
 have HS : Hid (∀ W, KO w W -> Calls Tryz.prog 70 #[.slice ac n cc, .int .i64 b] W fun e w' => ∃ sa cs, e = .returned (.tuple #[.slice sa (Rn.SQ b (Rn.cl l)).length cs, .int .i64 0]) /\ (∃ hs, SO W.heap.size w' (.slice sa (Rn.SQ b (Rn.cl l)).length cs) hs (Rn.SQ b (Rn.cl l))) /\ Below W.heap.size W w') := hide fun W hk => sequences_own ac n cc (Rn.cl l) b W (hc.below hk) hn hb hF
 have H := hide h
 have HF := hide hf
 have HM := hide hm
 have HG := hide (fun j (hj : j < (Rn.SQ b (Rn.cl l)).length) => Rn.g_of hb hF l (Rn.sq_mem hj))
 have HWS := hide (fun j m (hj : j < (Rn.SQ b (Rn.cl l)).length) (hm : m < ((Rn.SQ b (Rn.cl l)).getD j default).places.length) => Rn.WK_set (l := l) hb hF hj hm)
 have HWN := hide (fun j (hj : j < (Rn.SQ b (Rn.cl l)).length) => Rn.WK_next (l := l) hj)
 have HWE := hide (Rn.WK_end (l := l) hb hF)
 have HWF := hide (Rn.WK_first (l := l) (b := b) (c := Rn.cl l))
 have HIN := hide (fun j (hj : j < (Rn.SQ b (Rn.cl l)).length) i (hi : i ∈ ((Rn.SQ b (Rn.cl l)).getD j default).places) => (show i < n from by have := Rn.sq_in hb hF hj i hi; omega))
 have HSH := hide (fun j (hj : j < (Rn.SQ b (Rn.cl l)).length) => (show ((Rn.SQ b (Rn.cl l)).getD j default).places.length <= 2000 from by have := Rn.sq_short hb hF hj; omega))
 have HVS := hide (show Rn.VS l b = Rn.PVs Rn.F13 l b (Rn.cl l) from rfl)
 have HPF := hide (fun x (ps : List Nat) (hp : ∀ i ∈ ps, i < n) (hx : x ∈ Rn.pk l ps) => (show (Lit.int .i32 x).wf = true from by
  unfold Rn.pk at hx
  obtain ⟨i, hi, rfl⟩ := List.mem_map.1 hx
  exact wf_at hf (by rw [hlen]; exact hp i hi)))
 have HTL := hide (show (Ex.TY b (Rn.cl l)).length = n from by rw [Ex.TY_len]; exact hcl)
 unfold Rn.fv at HWS
 rw [HVS.out, <- HWE.out]
 rw [<- HWF.out] at HR
 generalize hWK : Rn.WK l b (Rn.cl l) = WK at *
 generalize hSQ : Rn.SQ b (Rn.cl l) = ss at *
 generalize hTY : Ex.TY b (Rn.cl l) = ty at *
 clear hWK hSQ hTY HWE HWF HVS h hf hm hc hb hF hcl hlen
 go_enter Tryz.func42, Tryz.ntmps42
 go_wp2_with fail
 refine HR.out.mono ?_
 rintro e w1 ⟨bl, bt, rfl, hol, hot, hne, hb1⟩
 have HS1 := hide (HS.out w1 hb1)
 have HOL := hide (And.intro hol (And.intro hot (And.intro hne hb1)))
 clear hol hot hne hb1 HS HR
 go_wp2_with fail
 refine HS1.out.mono ?_
 rintro e w2 ⟨sa, cs, rfl, hso, hb2⟩
 have hsm : ss.length <= maxLen := by obtain ⟨hs, h1⟩ := hso; exact h1.small
 unfold maxLen at hsm
 have HL0 : Hid (LPW w w2 w1.heap.size bl bt n n n (WK 0 0) ty (.slice sa ss.length cs) ss) := hide ⟨owns_below HOL.out.1 hb2, owns_below HOL.out.2.1 hb2, HOL.out.2.2.1, ⟨(HOL.out.1.lt bl rfl).2, (HOL.out.2.1.lt bt rfl).2⟩, hso, KO.on HOL.out.2.2.2 hb2⟩
 obtain ⟨B, hB⟩ : ∃ B, w1.heap.size = B := ⟨_, rfl⟩
 rw [hB] at HL0
 clear hso hb2 hB HOL HS1
 generalize hN : ss.length = N at *
 have HN := hide hN
 clear hN
 go_wp2
 go_loopw [40] (fun s40 wr => ∃ j : Nat, j <= N /\ s40 = .int .i64 (j : Int) /\ Hid (LPW w wr B bl bt n n n (WK j 0) ty (.slice sa N cs) ss)) (fun s40 _ => N - (intOf s40).toNat)
 case atStart => exact ⟨0, Nat.zero_le _, rfl, HL0⟩
 case round =>
  obtain ⟨j, hj, rfl, hm⟩ := hrel
  by_cases hlt : j < N
  ·have hjs : j < ss.length := by rw [HN.out]; exact hlt
   have hin : (j : Int) < (N : Int) := by omega
   have HLJ := hide hm.out
   obtain ⟨hs, hso⟩ := hm.out.so
   rw [<- HN.out] at hso
   obtain ⟨gj, cj, hs1⟩ := hso.one hjs
   obtain ⟨g0, rfl, hg0, c0, c1, c2, c3⟩ := hs1.pos
   have HRJ := hide hs1.row
   have hgj := hs1.le
   have HGJ := hide (HG.out j hlt)
   have HWJ := hide (fun m hm => HWS.out j m hlt hm)
   have HWX := hide (HWN.out j hlt)
   have HIJ := hide (HIN.out j hlt)
   have hsh := HSH.out j hlt
   have hbt := hm.out.lt
   generalize hse : ss.getD j default = s at *
   obtain ⟨ps, x, y, z⟩ := s
   simp only at *
   generalize hnp : ps.length = np at *
   have HNP := hide hnp
   clear hse hm hso hs1 HL0 hnp
   obtain ⟨X, hX⟩ : ∃ X, wr.alloc (.cells #[.slice (some ⟨gj, 0, none⟩) np cj, .int .i64 x, .int .i64 y, .int .i64 z] 77) = X := ⟨_, rfl⟩
   obtain ⟨xb, hxb⟩ : ∃ xb, wr.heap.size = xb := ⟨_, rfl⟩
   have kX : KO wr X := by rw [<- hX]; exact KO.alloc (KO.refl _) _
   have hh : X.heap[xb]? = some (.cells #[.slice (some ⟨gj, 0, none⟩) np cj, .int .i64 x, .int .i64 y, .int .i64 z] 77 (0, 0)) := by rw [<- hX, <- hxb]; exact heap_alloc_last wr _
   have hW : ∀ W, KO X W -> W.heap[xb]? = some (.cells #[.slice (some ⟨gj, 0, none⟩) np cj, .int .i64 x, .int .i64 y, .int .i64 z] 77 (0, 0)) := fun W hk => (Below.block hk xb (Array.getElem?_eq_some_iff.1 hh).1).trans hh
   have x0 : ∀ W, KO X W -> W.cell? ⟨xb, 0, none⟩ = some (.slice (some ⟨gj, 0, none⟩) np cj) := fun W hk => by simp [World.cell?, hW W hk]
   have x1 : ∀ W, KO X W -> W.cell? ⟨xb, 1, none⟩ = some (.int .i64 x) := fun W hk => by simp [World.cell?, hW W hk]
   have x2 : ∀ W, KO X W -> W.cell? ⟨xb, 2, none⟩ = some (.int .i64 y) := fun W hk => by simp [World.cell?, hW W hk]
   have x3 : ∀ W, KO X W -> W.cell? ⟨xb, 3, none⟩ = some (.int .i64 z) := fun W hk => by simp [World.cell?, hW W hk]
   have HLX := hide (HLJ.out.keep kX)
   have HRX := hide (HRJ.out.below kX)
   have HPR := hide (fun W (hk : KO X W) => pickr_any ao (some ⟨gj, 0, none⟩) n cap np cj l ps W (H.out.below (KO.on HLX.out.bel hk)) (HRX.out.below hk) HIJ.out (by omega))
   have HPI := hide (fun W (hk : KO X W) => picki_any (some ⟨bt, 0, none⟩) (some ⟨gj, 0, none⟩) n n np cj ty ps W ((HLX.out.keep hk).types) (HRX.out.below hk) HIJ.out (by omega))
   have hK : KO X X := KO.refl X
   clear hh hW kX HLJ HRJ
   go_wp2
   clear c0 c1 c2 c3 hX
   go_cut [14] from 44 to 54 (fun s14 wx => ∃ p an at', s14 = .pointer (some ⟨p, 0, none⟩) /\ Hid (SV wx p (some ⟨gj, 0, none⟩) np cj x y z an np np at' np (Rn.pk l ps) (Rn.pk ty ps) /\ KO X wx))
   case first =>
    refine wp_region_noPanic ?_
    go_region_held (fun w' => KO X w') (first | assumption | exact KO.drew hK | exact KO.alloc (by assumption) _)
     (first
      | (go_at_call 71; refine (HPR.out _ (by assumption)).mono ?_; rintro e w3 ⟨rfl, hn3⟩; have kr : KO X w3 := KO.on (by assumption) hn3.bel; have rr := hn3.row; have hb3 := hn3.bel; try (have ri := ri.below hb3))
      | (go_at_call 72; refine (HPI.out _ (by assumption)).mono ?_; rintro e w4 ⟨rfl, hn4⟩; have ki : KO X w4 := KO.on (by assumption) hn4.bel; have ri := hn4.row; have hb4 := hn4.bel; try (have rr := rr.below hb4)))
    all_goals (
     refine NoPanic.normal ?_
     have HE := hide (And.intro rr (And.intro ri (And.intro kr ki)))
     clear hn3 hn4 hb3 hb4 rr ri kr ki x0 x1 x2 x3 hK
     go_wp2
     go_meet
     exact ⟨_, _, _, rfl, hide ⟨⟨heap_alloc_last _ _, HE.out.1.below (KO.alloc (KO.refl _) _), HE.out.2.1.below (KO.alloc (KO.refl _) _)⟩, by assumption⟩⟩)
   obtain ⟨p, an, at', rfl, HSV⟩ := hcut
   have HLC := hide (HLX.out.keep HSV.out.2)
   have HRC := hide (HRX.out.below HSV.out.2)
   have HLV := hide (slevels_any HSV.out.1 HGJ.out (fun q hq => HPF.out q ps HIJ.out hq) (HM.out.below HLC.out.bel) (by omega))
   have HX0 := hide (fun W (hk : KO wc W) => x0 W (KO.on HSV.out.2 hk))
   have HBL := hide (HLC.out.ow.lt bl rfl).2
   generalize Rn.F13 (Rn.pk l ps) (Rn.pk ty ps) x y z = L5 at *
   clear x0 x1 x2 x3 hK HPR HPI HLX HRX HGJ HSV
   go_wp2_with fail
   refine HLV.out.mono ?_
   rintro e w5 ⟨a5, c5, rfl, hr5, hk5, hf5⟩
   have y0 := HX0.out w5 hk5
   have HI0 := hide (And.intro (HLC.out.keep hk5) (And.intro hr5 (HRC.out.below hk5)))
   have HFR := hide hf5
   clear hr5 hk5 hf5 HLV HX0 HLC HRC
   go_wp2
   go_loopw [66] (fun s66 wz => ∃ m : Nat, m <= np /\ s66 = .int .i64 (m : Int) /\ Hid (LPW w wz B bl bt n n n (WK j m) ty (.slice (some ⟨g0, 0, none⟩) N cs) ss /\ Row .i64 wz a5 np c5 L5 /\ Row .i64 wz (some ⟨gj, 0, none⟩) np cj (Rn.zs ps))) (fun s66 _ => np - (intOf s66).toNat)
   case atStart => exact ⟨0, Nat.zero_le _, rfl, HI0⟩
   case round =>
    rename World => wz
    obtain ⟨m, hm, rfl, HI⟩ := hrel
    by_cases hmn : m < np
    ·have hmi : (m : Int) < (np : Int) := by omega
     have hml : m < ps.length := by rw [HNP.out]; exact hmn
     have hpl := HIJ.out _ (Rn.getD_mem hml)
     have ca := rowAt HI.out.2.2 (KO.refl _) m hmn
     rw [Nat.zero_add, zs_at ps hml] at ca
     obtain ⟨b5, o5, e5, hb5, hc5⟩ := HI.out.2.1.cells (by omega)
     have cb := hc5 m (by rw [HI.out.2.1.len]; exact hmn)
     obtain ⟨cd, fd⟩ := HI.out.1.cell hpl
     have HI2 : Hid (LPW w (wz.setCell ⟨bl, ps.getD m 0, none⟩ (.int .i64 (L5.getD m 0))) B bl bt n n n (WK j (m + 1)) ty (.slice (some ⟨g0, 0, none⟩) N cs) ss /\ Row .i64 (wz.setCell ⟨bl, ps.getD m 0, none⟩ (.int .i64 (L5.getD m 0))) a5 np c5 L5 /\ Row .i64 (wz.setCell ⟨bl, ps.getD m 0, none⟩ (.int .i64 (L5.getD m 0))) (some ⟨gj, 0, none⟩) np cj (Rn.zs ps)) := by
      refine hide ⟨?_, fresh_apart HI.out.2.1 HFR.out HBL.out _ _, row_apart HI.out.2.2 (by omega) _ _⟩
      rw [<- HWJ.out m hmn]
      exact HI.out.1.set _ _
     subst e5
     have hpi : ((ps.getD m 0 : Nat) : Int) < (n : Int) := by omega
     clear hc5 HI HI0
     generalize L5.getD m 0 = v5 at *
     generalize (WK j m).getD (ps.getD m 0) 0 = v0 at *
     generalize ps.getD m 0 = pm at *
     go_wp2
     go_roundw
     case rel => exact ⟨m + 1, by omega, by go_num, HI2⟩
     case measure => simp [intOf]; omega
    ·obtain rfl : m = np := by omega
     have hne2 : ¬ ((m : Int) < (m : Int)) := by omega
     have HJ2 := HI.out.1
     rw [HWX.out] at HJ2
     have HJ3 := hide HJ2
     clear HJ2 HI HI0
     go_wp2
     go_roundw
     case rel => exact ⟨j + 1, by omega, by go_num, HJ3⟩
     case measure => simp [intOf]; omega
  ·obtain rfl : j = N := by omega
   have hne : ¬ ((j : Int) < (j : Int)) := by omega
   have HE := hide (show Row .i64 wr (some ⟨bl, 0, none⟩) n n (WK ss.length 0) /\ KO w wr from ⟨by rw [HN.out]; exact hm.out.levels, hm.out.bel⟩)
   clear hm
   go_wp2
   go_ret2
   exact ⟨_, _, rfl, HE.out.1, HE.out.2⟩
end Go.Proofs.YtfcoebbblfcdoaaGreatDoor

/- Paragraph: its contract. -/
namespace Go.Proofs.YtfcoebbblfcdoaaGreatDoor
open Go.RowKit
set_option linter.unusedVariables false
set_option maxHeartbeats 1000000
set_option maxRecDepth 100000
theorem bb3 (base : Int) : (Rn.BB base /\ ¬ base < -1 /\ ¬ 1 < base) \/ (¬ Rn.BB base /\ base < -1) \/ (¬ Rn.BB base /\ ¬ base < -1 /\ 1 < base) := by
 unfold Rn.BB
 omega
def RPA (w : World) (m : Int) (L : List Int) (E : Int) (e : Ending) (w' : World) : Prop := ∃ a1 c1, e = .returned (.tuple #[.int .i64 m, .slice a1 L.length c1, .int .i64 E]) /\ Row .i64 w' a1 L.length c1 L /\ KO w w'
theorem RPA.err {w w' : World} {E : Int} (hk : KO w w') : RPA w 0 [] E (.returned (.tuple #[.int .i64 0, .slice none 0 0, .int .i64 E])) w' := ⟨none, 0, rfl, row_nil _ _, hk⟩
theorem paragraph_any (ao : Option Addr) (n cap : Nat) (l : List Int) (base : Int) (w : World) (h : Row .i32 w ao n cap l) (hf : ∀ x ∈ l, (Lit.int .i32 x).wf = true) (hM : Marks w) (hn : n <= 2000 \/ 4096 < n) (m : Int) (L : List Int) (E : Int) (hA : Rn.PA l base m L E) :
  Calls Tryz.prog 20 #[.slice ao n cap, .int .i64 base] w (RPA w m L E) := by
 have hl := h.len
 rcases bb3 base with ⟨hb, h1, h2⟩ | ⟨hb, h1⟩ | ⟨hb, h1, h2⟩
 ·by_cases hbig : 4096 < n
  ·obtain ⟨rfl, rfl, rfl⟩ : m = 0 /\ L = [] /\ E = 3 := by
    rcases hA with ⟨q, _⟩ | ⟨_, _, q⟩ | ⟨_, q, _⟩ | ⟨_, q, _⟩
    ·exact absurd hb q
    ·exact q
    ·omega
    ·omega
   have hbig2 : (4096 : Int) < (n : Int) := by omega
   clear h hf hA hl hb hM hn
   go_enter Tryz.func20, Tryz.ntmps20
   go_wp2
   go_ret3
   exact RPA.err (KO.refl _)
  ·have hbig2 : ¬ (4096 : Int) < (n : Int) := by omega
   have hn2 : n <= 2000 := by omega
   have hE : (¬ Ex.Formed (Rn.cl l) /\ m = 0 /\ L = [] /\ E = 50) \/ (Ex.Formed (Rn.cl l) /\ m = Rn.bl base l /\ L = Rn.VS l (Rn.bl base l) /\ E = 0) := by
    rcases hA with ⟨q, _⟩ | ⟨_, q, _⟩ | ⟨_, _, q⟩ | ⟨_, _, q⟩
    ·exact absurd hb q
    ·omega
    ·exact .inl q
    ·exact .inr q
   have HC := hide (classes_any ao n cap l w h hf (by omega))
   have h2b := Rn.bl_two hb l
   have hcl : (Rn.cl l).length = n := by rw [Rn.cl_len, hl]
   have HB := hide (fun W (h0 : Row .i64 W (some ⟨w.heap.size, 0, none⟩) n n (Rn.cl l)) => (show Calls Tryz.prog 41 #[.slice (some ⟨w.heap.size, 0, none⟩) n n, .int .i64 0, .int .i64 (n : Int)] W fun e w' => e = .returned (.tuple #[.int .i64 (Iso.bso 0 (Rn.cl l)), .int .i64 0]) /\ W = w' from by
    have := base_ok (some ⟨w.heap.size, 0, none⟩) n n (Rn.cl l) 0 n W h0 (by omega) (Nat.zero_le _) (Nat.le_refl _)
    rw [List.take_of_length_le (by rw [hcl]; exact Nat.le_refl _), List.drop_zero] at this
    exact this))
   have hbl : (base = -1 /\ Rn.bl base l = Iso.bso 0 (Rn.cl l)) \/ (¬ base = -1 /\ Rn.bl base l = base) := by
    unfold Rn.bl
    by_cases e : base = -1
    ·exact .inl ⟨e, if_pos e⟩
    ·exact .inr ⟨e, if_neg e⟩
   have HP := hide (fun W b (hk : KO w W) (h0 : Row .i64 W (some ⟨w.heap.size, 0, none⟩) n n (Rn.cl l)) (hb' : b = 0 \/ b = 1) => And.intro (fun hF => placeLevels_any ao (some ⟨w.heap.size, 0, none⟩) n cap n l b W (h.below hk) h0 hf (hM.below hk) hn2 hb' hF) (fun hF => placeLevels_form ao (some ⟨w.heap.size, 0, none⟩) n cap n l b W h0 (by omega) hb' hF))
   have HVL := hide (show (Rn.VS l (Rn.bl base l)).length = n from by rw [Rn.VS_len, hl])
   clear h hf hM hA hb hl hcl
   generalize hbb : Rn.bl base l = bb at *
   have HHB : ∀ W (h0 : Row .i64 W (some ⟨w.heap.size, 0, none⟩) n n (Rn.cl l)) (hk : KO w W), Calls Tryz.prog 42 #[.slice ao n cap, .slice (some ⟨w.heap.size, 0, none⟩) n n, .int .i64 bb] W fun e w' => ∃ a1 c1, e = .returned (.tuple #[.slice a1 L.length c1, .int .i64 E]) /\ Row .i64 w' a1 L.length c1 L /\ KO W w' /\ ((E = 0 /\ m = bb) \/ (¬ E = 0 /\ m = 0 /\ L = [])) := by
    intro W h0 hk
    rcases hE with ⟨hF, rfl, rfl, rfl⟩ | ⟨hF, rfl, rfl, rfl⟩
    ·refine ((HP.out W bb hk h0 h2b).2 hF).mono ?_
     rintro e w' ⟨rfl, rfl⟩
     exact ⟨none, 0, rfl, row_nil _ _, KO.refl _, .inr ⟨by decide, rfl, rfl⟩⟩
    ·refine ((HP.out W _ hk h0 h2b).1 hF).mono ?_
     rintro e w' ⟨a1, c1, rfl, hr, hk2⟩
     rw [HVL.out]
     exact ⟨a1, c1, rfl, hr, hk2, .inl ⟨rfl, rfl⟩⟩
   have HH := hide HHB
   clear hE HVL HHB HP hbb
   rcases hbl with ⟨rfl, hbl⟩ | ⟨hbl1, hbl⟩
   ·rw [<- hbl] at HB
    clear hbl
    go_enter Tryz.func20, Tryz.ntmps20
    go_wp2_with fail
    refine HC.out.mono ?_
    rintro e w1 ⟨rfl, hn1⟩
    have HB1 := hide (HB.out w1 hn1.row)
    have HH1 := hide (HH.out w1 hn1.row hn1.bel)
    have HK1 := hide hn1.bel
    clear hn1 HB HH HC
    go_wp2_with fail
    refine HB1.out.mono ?_
    rintro e w2 ⟨rfl, rfl⟩
    go_wp2_with fail
    refine HH1.out.mono ?_
    rintro e w3 ⟨a1, c1, rfl, hr, hk, hE⟩
    have HR := hide (And.intro hr (KO.on HK1.out hk))
    clear hr hk HH1 HB1 HK1
    rcases hE with ⟨rfl, rfl⟩ | ⟨hE, rfl, rfl⟩
    ·go_wp2
     go_ret3
     exact ⟨_, _, rfl, HR.out.1, HR.out.2⟩
    ·have hEb : (E != 0) = true := bne_iff_ne.2 hE
     go_wp2
     go_ret3
     exact RPA.err HR.out.2
   ·subst hbl
    clear HB
    have hbq : (bb == -1) = false := beq_false_of_ne hbl1
    go_enter Tryz.func20, Tryz.ntmps20
    go_wp2_with fail
    refine HC.out.mono ?_
    rintro e w1 ⟨rfl, hn1⟩
    have HH1 := hide (HH.out w1 hn1.row hn1.bel)
    have HK1 := hide hn1.bel
    clear hn1 HH HC
    go_wp2_with fail
    refine HH1.out.mono ?_
    rintro e w3 ⟨a1, c1, rfl, hr, hk, hE⟩
    have HR := hide (And.intro hr (KO.on HK1.out hk))
    clear hr hk HH1 HK1
    rcases hE with ⟨rfl, rfl⟩ | ⟨hE, rfl, rfl⟩
    ·go_wp2
     go_ret3
     exact ⟨_, _, rfl, HR.out.1, HR.out.2⟩
    ·have hEb : (E != 0) = true := bne_iff_ne.2 hE
     go_wp2
     go_ret3
     exact RPA.err HR.out.2
 ·obtain ⟨rfl, rfl, rfl⟩ : m = 0 /\ L = [] /\ E = 2 := by
   rcases hA with ⟨_, q⟩ | ⟨q, _⟩ | ⟨q, _⟩ | ⟨q, _⟩
   ·exact q
   all_goals exact absurd q hb
  clear h hf hA hb hl hM hn
  go_enter Tryz.func20, Tryz.ntmps20
  go_wp2
  go_ret3
  exact RPA.err (KO.refl _)
 ·obtain ⟨rfl, rfl, rfl⟩ : m = 0 /\ L = [] /\ E = 2 := by
   rcases hA with ⟨_, q⟩ | ⟨q, _⟩ | ⟨q, _⟩ | ⟨q, _⟩
   ·exact q
   all_goals exact absurd q hb
  clear h hf hA hb hl hM hn
  go_enter Tryz.func20, Tryz.ntmps20
  go_wp2
  go_ret3
  exact RPA.err (KO.refl _)
end Go.Proofs.YtfcoebbblfcdoaaGreatDoor

/- The document's own table and class (colophonref03): contracts. -/
namespace Go.Proofs.YtfcoebbblfcdoaaGreatDoor
open Go.RowKit
set_option linter.unusedVariables false
set_option maxHeartbeats 1000000
set_option maxRecDepth 100000
def refCellsOf (p : Ucd.Rg) : List Value := [.int .i64 p.1, .int .i64 p.2.1, .int .i64 p.2.2]
def refCells : Array Value := (Ucd.flat refCellsOf Ucd.rows).toArray
def refArrays : List (Array Value) := Ucd.rows.map fun p => (refCellsOf p).toArray
def lastSlice (o : Oper) : Option (Tmp × TypeId × Nat × List (Nat × Operand)) :=
 match o.guard, o.dst, o.op with
 | none, some d, .buildSlice t n parts => some (d, t, n, parts.toList)
 | _, _, _ => none
def assignOf (o : Oper) : Option (Tmp × Operand) :=
 match o.guard, o.dst, o.op with
 | none, some d, .assign x => some (d, x)
 | _, _, _ => none
theorem wpList_tabSlice {P : Program} {ops : Array Oper} {Q : Exit -> Act -> World -> Prop} {l : List Oper} {a : Act} {w : World} (cs : List (Array Value)) (d : Tmp) (t e : TypeId) (cells : Array Value) (ie : TypeInfo) (z : Value)
  (hs : 1 + cs.length < a.tmps.size) (hl : l.length = cs.length + 2) (h1 : (l.take cs.length).mapM (builtBy P) = some (numbered 1 cs))
  (h2 : (l[cs.length]?).bind lastSlice = some (d, t, cs.length, (List.range cs.length).map fun i => (i, Operand.tmp (1 + i)))) (hd : d = 1 + cs.length)
  (hu : P.underlying t = some (.slice e)) (hie : P.info? e = some ie) (hz : ie.zero = some z) (hsmall : ¬ cs.length * ie.size > 2 ^ 24) (hpos : ¬ cs.length * ie.size = 0)
  (h3 : Instr.fill (fun i => some (i * ie.size, ie.size)) ((Array.range (cs.length * ie.size)).map (z.cells[· % z.cells.size]!)) ((List.range cs.length).map fun i => (i, Value.agg (cs.getD i #[]))) = some cells)
  (h4 : (l[cs.length + 1]?).bind assignOf = some (0, .tmp d))
  (h : ∀ a' : Act, a'.defers = a.defers -> a'.tmps.size = a.tmps.size -> a'.tmps.getD 0 undef = .slice (some ⟨w.heap.size, 0, none⟩) cs.length cs.length -> Q .normal a' (w.alloc (.cells cells e))) : wpList P ops Q l a w := by
 have hsplit : l = l.take cs.length ++ l.drop cs.length := (List.take_append_drop _ _).symm
 rw [hsplit]
 refine wpList_builds _ _ _ _ _ h1 ?_
 have e1 : cs.length < l.length := by omega
 have e2 : cs.length + 1 < l.length := by omega
 rw [List.drop_eq_getElem_cons e1, List.drop_eq_getElem_cons e2, List.drop_of_length_le (by omega)]
 rw [List.getElem?_eq_getElem e1, Option.bind_some] at h2
 rw [List.getElem?_eq_getElem e2, Option.bind_some] at h4
 unfold lastSlice at h2
 split at h2
 ·rename_i d1 t1 n1 parts hg1 hd1 ho1
  simp only [Option.some.injEq, Prod.mk.injEq] at h2
  obtain ⟨rfl, rfl, rfl, hp⟩ := h2
  unfold assignOf at h4
  split at h4
  ·rename_i d2 x2 hg2 hd2 ho2
   simp only [Option.some.injEq, Prod.mk.injEq] at h4
   obtain ⟨rfl, rfl⟩ := h4
   subst hd
   refine wpList_buildSlice hg1 _ e _ parts ho1 cells ie z hu hie hz hsmall hpos ?_ ?_
   ·rw [parts_slots a cs 1 (by omega) parts hp]; exact h3
   ·rw [hd1]
    have hsz := puts_size (numbered 1 cs) a
    have z0 : ((puts (numbered 1 cs) a).put (some (1 + cs.length)) (.slice (some ⟨w.heap.size, 0, none⟩) cs.length cs.length)).tmps.getD (1 + cs.length) undef = .slice (some ⟨w.heap.size, 0, none⟩) cs.length cs.length :=
     put_same _ _ _ (by rw [hsz]; omega)
    refine wpList_run hg2 (some 0) hd2 (.slice (some ⟨w.heap.size, 0, none⟩) cs.length cs.length) (w.alloc (.cells cells e)) ?_ ?_
    ·unfold execOp
     rw [ho2]
     simp only [Act.eval, z0]
     rfl
    ·refine wpList_nil (h _ ?_ ?_ ?_)
     ·exact puts_defers (numbered 1 cs) a
     ·rw [put_size, put_size, hsz]
     ·exact put_same _ _ _ (by rw [put_size, hsz]; omega)
  ·cases h4
 ·cases h2
theorem refInfo : (Tryz.prog.info? 107).map (fun i => (i.zero, i.size)) = some (some (.agg #[.int .i64 0, .int .i64 0, .int .i64 0]), 3) := by kernel_rfl
theorem refLen : refArrays.length = 147 := by kernel_rfl
theorem refBuilt : Instr.fill (fun i => some (i * 3, 3)) ((Array.range (refArrays.length * 3)).map ((Value.agg #[.int .i64 0, .int .i64 0, .int .i64 0]).cells[· % (Value.agg #[.int .i64 0, .int .i64 0, .int .i64 0]).cells.size]!)) ((List.range refArrays.length).map fun i => (i, Value.agg (refArrays.getD i #[]))) = some refCells := by kernel_rfl
def RefAt (w : World) (b : Nat) : Prop := ∀ i, i < 441 -> w.cell? ⟨b, i, none⟩ = refCells[i]?
theorem RefAt.at {w : World} {b : Nat} (h : RefAt w b) {i : Nat} (hi : i < 147) :
  w.cell? ⟨b, i * 3, none⟩ = some (.int .i64 (Ucd.lo Ucd.rows i)) /\ w.cell? ⟨b, i * 3 + 1, none⟩ = some (.int .i64 (Ucd.hi Ucd.rows i)) /\ w.cell? ⟨b, i * 3 + 2, none⟩ = some (.int .i64 (Ucd.cl Ucd.rows i)) := by
 have e : ∀ j, j < 3 -> w.cell? ⟨b, i * 3 + j, none⟩ = (refCellsOf (Ucd.rows.getD i (0, 0, 0)))[j]? := fun j hj => by
  rw [h (i * 3 + j) (by omega), refCells, List.getElem?_toArray, Ucd.flat_at refCellsOf (fun _ => rfl) Ucd.rows i j (by rw [Ucd.rows_len]; exact hi) hj]
 exact ⟨e 0 (by omega), e 1 (by omega), e 2 (by omega)⟩
theorem RefAt.mono {w w' : World} {b B : Nat} (h : RefAt w b) (hb : Below B w w') (hB : b < B) : RefAt w' b := fun i hi => (hb.cell (p := ⟨b, i, none⟩) hB).trans (h i hi)
theorem refAt_new (w : World) (t : TypeId) : RefAt (w.alloc (.cells refCells t)) w.heap.size := fun i hi => by
 unfold World.cell?
 rw [heap_alloc_last]
 rfl
theorem ranges_any (w : World) : Calls Tryz.prog 65 #[] w fun e w' => ∃ b, e = .returned (.slice (some ⟨b, 0, none⟩) 147 147) /\ Below w.heap.size w w' /\ w.heap.size <= b /\ b < w'.heap.size /\ RefAt w' b := by
 cases hq : Tryz.prog.info? 107 with
 | none => have := refInfo; rw [hq] at this; cases this
 | some ie =>
  have hi := refInfo
  rw [hq] at hi
  simp only [Option.map_some, Option.some.injEq, Prod.mk.injEq] at hi
  refine calls_bare 149 Tryz.func65 rfl Tryz.ntmps65 fun a hs hdf => ?_
  refine wp_seq ?_
  refine wp_region_list ?_
  refine wpList_run rfl (some 0) rfl (.slice none 0 0) w ?_ ?_
  ·simp [execOp, go_sem]
  refine wpList_nil ?_
  refine wp_seq ?_
  refine wp_region_list ?_
  refine wpList_tabSlice refArrays 148 105 107 refCells ie (.agg #[.int .i64 0, .int .i64 0, .int .i64 0]) (by rw [put_size, refLen]; omega) (by kernel_rfl) (by kernel_rfl) (by kernel_rfl) (by kernel_rfl) Tryz.underlying105 hq hi.1
   (by rw [hi.2, refLen]; omega) (by rw [hi.2, refLen]; omega) (by rw [hi.2]; exact refBuilt) (by kernel_rfl) ?_
  intro a' hd hsz h0
  refine wp_ret ?_
  rw [refLen] at h0
  refine bodyPost_ret (v := .slice (some ⟨w.heap.size, 0, none⟩) 147 147) ?_ (hd.trans hdf) ⟨w.heap.size, rfl, (Below.refl _ _).alloc (Nat.le_refl _) _, Nat.le_refl _, by simp, refAt_new w _⟩
  have ht : a'.tmps[0]?.getD undef = .slice (some ⟨w.heap.size, 0, none⟩) 147 147 := by simpa using h0
  simp [results, Tryz.results65, go_sem, ht]
end Go.Proofs.YtfcoebbblfcdoaaGreatDoor

/- The document's own class (colophonref03.Class): its contract; the names of the classes; the walk of UcdClasses. -/
namespace Go.Proofs.YtfcoebbblfcdoaaGreatDoor
open Go.RowKit
set_option linter.unusedVariables false
set_option maxHeartbeats 1000000
set_option maxRecDepth 100000
theorem rsize_any (r : Int) (w : World) (hr : (Lit.int .i32 r).wf = true) :
  Calls Tryz.prog 27 #[.int .i32 r] w fun e w' => ∃ n : Int, e = .returned (.int .i64 n) /\ w = w' /\ ((n = 0) ↔ Ucd.valid r = false) := by
 have hb : -2147483648 <= r /\ r <= 2147483647 := bounds_i32 hr
 clear hr
 by_cases h1 : r < 0
 ·go_enter Tryz.func27, Tryz.ntmps27
  go_wp2
  all_goals go_ret
  all_goals exact ⟨_, rfl, rfl, by simp [Ucd.valid]; omega⟩
 by_cases h2 : r > 1114111
 ·go_enter Tryz.func27, Tryz.ntmps27
  go_wp2
  all_goals go_ret
  all_goals exact ⟨_, rfl, rfl, by simp [Ucd.valid]; omega⟩
 by_cases h3 : r >= 55296
 ·by_cases h4 : r <= 57343
  ·go_enter Tryz.func27, Tryz.ntmps27
   go_wp2
   all_goals go_ret
   all_goals exact ⟨_, rfl, rfl, by simp [Ucd.valid]; omega⟩
  ·go_enter Tryz.func27, Tryz.ntmps27
   go_wp2
   all_goals go_ret
   all_goals exact ⟨_, rfl, rfl, by simp [Ucd.valid]; omega⟩
 ·go_enter Tryz.func27, Tryz.ntmps27
  go_wp2
  all_goals go_ret
  all_goals exact ⟨_, rfl, rfl, by simp [Ucd.valid]; omega⟩
theorem find_step (r : Int) : ∀ (l : List Ucd.Rg) (i : Nat), i < l.length -> Ucd.find (l.drop i) r = if Ucd.lo l i <= r /\ r <= Ucd.hi l i then Ucd.cl l i else Ucd.find (l.drop (i + 1)) r := by
 intro l i h
 rw [List.drop_eq_getElem_cons h]
 have e : l.getD i (0, 0, 0) = l[i] := by simp [List.getD, List.getElem?_eq_getElem h]
 simp only [Ucd.find, Ucd.lo, Ucd.hi, Ucd.cl, e]
theorem rclass_any (r : Int) (w : World) (hr : (Lit.int .i32 r).wf = true) :
  Calls Tryz.prog 38 #[.int .i32 r] w fun e w' => e = .returned (.int .i64 (Ucd.cls r)) /\ Below w.heap.size w w' := by
 have HS := hide (rsize_any r w hr)
 have hb := bounds_i32 hr
 clear hr
 cases hv : Ucd.valid r
 ·have HC := hide (Ucd.cls_not hv)
  rw [hv] at HS
  go_enter Tryz.func38, Tryz.ntmps38
  go_wp2_with fail
  refine HS.out.mono ?_
  rintro e w1 ⟨n, rfl, rfl, hn⟩
  obtain rfl : n = 0 := hn.2 (by simp)
  clear hn hv
  go_wp2
  go_ret
  exact ⟨ret_int HC.out.symm, Below.refl _ _⟩
 ·have HC : Hid (Ucd.cls r = Ucd.find (Ucd.rows.drop 0) r) := hide (by unfold Ucd.cls; rw [if_pos hv]; rfl)
  rw [hv] at HS
  go_enter Tryz.func38, Tryz.ntmps38
  go_wp2_with fail
  refine HS.out.mono ?_
  rintro e w1 ⟨n, rfl, rfl, hn⟩
  have hn0 : ¬ n = 0 := fun h => by have := hn.1 h; simp at this
  clear hn hv
  go_wp2_with fail
  refine (ranges_any w).mono ?_
  rintro e w2 ⟨b, rfl, hb2, hbb, hlt, hR⟩
  have HR := hide hR
  clear hR
  go_wp2_with fail
  go_loop [4] (fun s4 => ∃ i : Nat, s4 = .int .i64 i /\ i <= 147 /\ Hid (Ucd.cls r = Ucd.find (Ucd.rows.drop i) r)) (fun s4 => (147 - intOf s4).toNat)
  case atStart => exact ⟨0, rfl, by omega, HC⟩
  case round =>
   obtain ⟨i, rfl, hi, HI⟩ := hrel
   by_cases hlt2 : i < 147
   ·obtain ⟨c0, c1, c2⟩ := HR.out.at hlt2
    have hst := find_step r Ucd.rows i (by rw [Ucd.rows_len]; exact hlt2)
    have hI : Ucd.cls r = if Ucd.lo Ucd.rows i <= r /\ r <= Ucd.hi Ucd.rows i then Ucd.cl Ucd.rows i else Ucd.find (Ucd.rows.drop (i + 1)) r := HI.out.trans hst
    have hok := Ucd.rows_ok hlt2
    clear hst
    generalize Ucd.lo Ucd.rows i = L at *
    generalize Ucd.hi Ucd.rows i = H at *
    generalize Ucd.cl Ucd.rows i = C at *
    by_cases h1 : L <= r
    ·by_cases h2 : r <= H
     ·rw [if_pos ⟨h1, h2⟩] at hI
      have HX := hide hI
      clear hI
      go_wp2
      go_ret
      exact ⟨ret_int HX.out.symm, hb2⟩
     ·rw [if_neg (fun h => h2 h.2)] at hI
      have HX := hide hI
      clear hI
      go_wp2
      go_round
      case rel => exact ⟨i + 1, by first | rfl | (congr 1), by omega, HX⟩
      case measure => simp [intOf]; omega
    ·rw [if_neg (fun h => h1 h.1)] at hI
     have HX := hide hI
     clear hI
     go_wp2
     go_round
     case rel => exact ⟨i + 1, by first | rfl | (congr 1), by omega, HX⟩
     case measure => simp [intOf]; omega
   ·obtain rfl : i = 147 := by omega
    have HX : Hid (Ucd.cls r = 1) := hide (by have := HI.out; rw [List.drop_of_length_le (by rw [Ucd.rows_len]; omega)] at this; exact this)
    go_wp2
    go_ret
    exact ⟨ret_int HX.out.symm, hb2⟩
end Go.Proofs.YtfcoebbblfcdoaaGreatDoor

/- A list of numbers and one of types, that a law lays place by place. -/
namespace Go.Proofs.YtfcoebbblfcdoaaGreatDoor
open Go.RowKit
set_option linter.unusedVariables false
set_option maxHeartbeats 1000000
set_option maxRecDepth 100000
structure LT (w0 : World) (vl vt : Value) (nl nt : Nat) (l t : List Int) (w : World) : Prop where
 old : Below w0.heap.size w0 w
 ol : w.ownsRow w0.heap.size 21 1 vl nl (l.map (Value.int .i32))
 ot : w.ownsRow w0.heap.size 3 1 vt nt (t.map (Value.int .i64))
section
variable {w0 : World} {vl vt : Value} {nl nt : Nat} {l t : List Int} {w : World}
theorem LT.pushL (h : LT w0 vl vt nl nt l t w) {x : Int} {o : Obj} {v' : Value} {w' : World} (ho : w'.ownsRow w0.heap.size 21 1 v' (nl + 1) (l.map (Value.int .i32) ++ [.int .i32 x])) (hg : (w.alloc o).grownBy w' vl.ownBlock) : LT w0 v' vt (nl + 1) nt (l ++ [x]) t w' := by
 refine ⟨Below.grown (KO.alloc h.old o) hg (by simp; have := h.old.size; omega) (fun j hj => (h.ol.lt j hj).1), ?_, (h.ot.alloc o).kept hg (owns_apart h.ot h.ol (by decide))⟩
 rw [List.map_append]; exact ho
theorem LT.pushT (h : LT w0 vl vt nl nt l t w) {x : Int} {o : Obj} {v' : Value} {w' : World} (ho : w'.ownsRow w0.heap.size 3 1 v' (nt + 1) (t.map (Value.int .i64) ++ [.int .i64 x])) (hg : (w.alloc o).grownBy w' vt.ownBlock) : LT w0 vl v' nl (nt + 1) l (t ++ [x]) w' := by
 refine ⟨Below.grown (KO.alloc h.old o) hg (by simp; have := h.old.size; omega) (fun j hj => (h.ot.lt j hj).1), (h.ol.alloc o).kept hg (owns_apart h.ol h.ot (by decide)), ?_⟩
 rw [List.map_append]; exact ho
end
theorem one_new (w : World) (a : Value) (t : TypeId) : ∀ (j : Nat) (u : Value), [a][j]? = some u -> (w.alloc (.cells #[a] t)).cell? ((⟨w.heap.size, 0, none⟩ : Addr).add j) = some u := by
 intro j u hj
 have hadd : (⟨w.heap.size, 0, none⟩ : Addr).add j = ⟨w.heap.size, j, none⟩ := by unfold Addr.add; split <;> simp_all
 rw [hadd, World.cell?_alloc_mark]
 rw [<- hj]
 simp
theorem wpList_append_one {P : Program} (w : World) {ops : Array Oper} {rest : List Oper} {o : Oper} {a : Act} {Q : Exit -> Act -> World -> Prop} (hgd : o.guard = none) (s x : Operand) (t : TypeId)
  (ho : o.op = .call { callee := .builtin .append, args := #[s, x], argTypes := #[t, t] })
  (base : Nat) (e : TypeId) (i : TypeInfo) (z : Value) (bytes : Nat) (ht : P.underlying t = some (.slice e)) (hi : P.info? e = some i) (hz : i.zero = some z)
  (hsize : i.size = 1) (hby : i.bytes = bytes) (hzs : z.cells.size = 1)
  (v : Value) (n : Nat) (xs : List Value) (hs : a.eval s = v) (p : Value) (hown : w.ownsRow base e 1 v n xs)
  (g : Nat) (hg : g = w.heap.size) (hx : a.eval x = .slice (some ⟨g, 0, none⟩) 1 1) (h1 : p.oneCell' = true)
  (hn : n <= 100000) (hb8 : bytes <= 8) (hbase : base <= w.heap.size)
  (h : ∀ v' w', w'.ownsRow base e 1 v' (n + 1) (xs ++ [p]) -> (w.alloc (.cells #[p] e)).grownBy w' v.ownBlock -> wpList P ops Q rest (a.put o.dst v') w') :
  wpList P ops Q (o :: rest) a (w.alloc (.cells #[p] e)) := by
 subst hg
 have hnb : (n + 1) * bytes <= 140737488355328 := by
  have : (n + 1) * bytes <= 100001 * 8 := Nat.mul_le_mul (by omega) hb8
  omega
 refine wpList_append_own _ hgd s x t ho base e i z 1 bytes ht hi hz hsize hby hzs (by decide) v n xs hs (hown.alloc _) ⟨w.heap.size, 0, none⟩ 1 1 [p] hx rfl (one_new w p e) (by intro u hu; simp at hu; rw [hu]; exact h1) (by unfold maxLen; omega) hnb (by simp; omega) (fun v' w' g1 g2 _ => h v' w' g1 g2)
end Go.Proofs.YtfcoebbblfcdoaaGreatDoor

/- The document's Classes. -/
namespace Go.Proofs.YtfcoebbblfcdoaaGreatDoor
open Go.RowKit
set_option linter.unusedVariables false
set_option maxHeartbeats 1000000
set_option maxRecDepth 100000
theorem RG.one {w wr w2 w' : World} {zs : List Int} {k : Nat} {v v' : Value} {x : Int} {o : Obj} (h : RG w zs k v wr) (hk : KO wr w2) (ho : w'.ownsRow w.heap.size 3 1 v' (k + 1) (zs.map (Value.int .i64) ++ [.int .i64 x])) (hg : (w2.alloc o).grownBy w' v.ownBlock) : RG w (zs ++ [x]) (k + 1) v' w' := by
 refine ⟨by rw [List.map_append]; exact ho, ?_⟩
 exact Below.grown (KO.alloc (KO.on h.bel hk) o) hg (by simp; have := (KO.on h.bel hk).size; omega) (fun j hj => (h.own.lt j hj).1)
theorem cl_snoc {l : List Int} {k : Nat} (hk : k < l.length) : (Rn.cl l).take (k + 1) = (Rn.cl l).take k ++ [Ucd.cls (l.getD k 0)] := by
 have h : k < (Rn.cl l).length := by rw [Rn.cl_len]; exact hk
 rw [List.take_succ_eq_append_getElem h]
 have e : (Rn.cl l)[k] = Ucd.cls (l.getD k 0) := by simp [Rn.cl, List.getD, hk]
 rw [e]
theorem rclasses_any (ao : Option Addr) (n cap : Nat) (l : List Int) (w : World) (h : Row .i32 w ao n cap l) (hf : ∀ x ∈ l, (Lit.int .i32 x).wf = true) (hn : n <= 100000) :
  Calls Tryz.prog 18 #[.slice ao n cap] w fun e w' => ∃ a1 c1, e = .returned (.slice a1 n c1) /\ Row .i64 w' a1 n c1 (Rn.cl l) /\ KO w w' := by
 obtain ⟨ii, hii, hy0, hy1, hy2⟩ := info_parts infoInt
 have HII : Hid (Tryz.prog.info? 3 = some ii) := hii
 have HY0 := hide hy0
 have HY1 := hide hy1
 have HY2 := hide hy2
 have H := hide h
 have HL := hide h.len
 have HF := hide hf
 clear h hf hii hy0 hy1 hy2
 go_enter Tryz.func18, Tryz.ntmps18
 go_wp2
 go_loopw [3, 4] (fun s3 s4 wr => ∃ (k : Nat) (v3 : Value), v3 = s3 /\ k <= n /\ s4 = .int .i64 (k : Int) /\ Hid (RG w ((Rn.cl l).take k) k v3 wr)) (fun _ s4 _ => n - (intOf s4).toNat)
 case atStart => exact ⟨0, _, rfl, Nat.zero_le _, rfl, hide ⟨World.ownsRow_nil _ _ _ _, Below.refl _ _⟩⟩
 case round =>
  obtain ⟨k, v3, hv3, hk, rfl, gm⟩ := hrel
  subst hv3
  by_cases hlt : k < n
  ·have hkl : k < l.length := by rw [HL.out]; exact hlt
   obtain ⟨b, off, rfl, hbl, hc⟩ := H.out.cells (by omega)
   have ck : wr.cell? ⟨b, off + k, none⟩ = some (.int .i32 (l.getD k 0)) := (gm.out.bel.cell (by exact hbl)).trans (hc k hkl)
   have HC := hide (rclass_any (l.getD k 0) wr (wf_at HF.out hkl))
   have HS := hide (cl_snoc hkl)
   have hin : (k : Int) < (n : Int) := by omega
   have HSZ := hide gm.out.bel.size
   clear hc
   generalize (Rn.cl l).take k = F at *
   generalize l.getD k 0 = x at *
   go_wp2_with (first
    | (go_at_call 38; refine HC.out.mono ?_; rintro e w2 ⟨rfl, hb2⟩; have HB2 := hide hb2; clear hb2)
    | (at_builtin; refine wpList_append_one w2 rfl (.tmp 11) (.tmp 17) 30 rfl w.heap.size 3 ii _ 8 Tryz.underlying30 HII.out HY0.out HY1.out HY2.out rfl v3 k _ rfl (.int .i64 (Ucd.cls x)) (owns_below gm.out.own HB2.out) _ rfl rfl rfl (by omega) (by omega) (Nat.le_trans HSZ.out HB2.out.size) ?_; intro v1 w4 ho1 hg1; have HG1 := hide (gm.out.one HB2.out ho1 hg1); clear ho1 hg1))
   rw [<- HS.out] at HG1
   go_roundw
   case rel => exact ⟨k + 1, _, rfl, by omega, by go_num, HG1⟩
   case measure => simp [intOf]; omega
  ·obtain rfl : k = n := by omega
   have hne : ¬ ((k : Int) < (k : Int)) := by omega
   obtain ⟨a1, c1, rfl, hr⟩ := row_of_owns gm.out.own
   have HR := hide (show Row .i64 wr a1 k c1 (Rn.cl l) /\ KO w wr from ⟨by
    have := hr
    rw [List.take_of_length_le (by rw [Rn.cl_len, HL.out]; exact Nat.le_refl _)] at this
    exact this, gm.out.bel⟩)
   clear gm hr
   go_wp2
   go_ret
   exact ⟨a1, c1, rfl, HR.out.1, HR.out.2⟩
end Go.Proofs.YtfcoebbblfcdoaaGreatDoor

/- works: the chapter's examples; ExplicitRemoves. -/
namespace Go.Proofs.YtfcoebbblfcdoaaGreatDoor
open Go.RowKit
set_option linter.unusedVariables false
set_option maxHeartbeats 1000000
set_option maxRecDepth 100000
theorem rremoved_any (x : Int) (w : World) : Calls Tryz.prog 53 #[.int .i64 x] w fun e w' => e = .returned (.bool (Ex.rm x)) /\ w = w' := by
 rcases rm_cases x with ⟨hs, h⟩ | ⟨hs, h1, h2, h3, h4, h5, h6⟩
 ·rcases h with rfl | rfl | rfl | rfl | rfl | rfl
  all_goals
   clear hs
   go_enter Tryz.func53, Tryz.ntmps53
   go_wp2
   go_ret
   exact ⟨rfl, rfl⟩
 ·rw [hs]
  have q1 : (x == 17) = false := beq_false_of_ne h1
  have q2 : (x == 15) = false := beq_false_of_ne h2
  have q3 : (x == 18) = false := beq_false_of_ne h3
  have q4 : (x == 16) = false := beq_false_of_ne h4
  have q5 : (x == 19) = false := beq_false_of_ne h5
  have q6 : (x == 10) = false := beq_false_of_ne h6
  clear hs
  go_enter Tryz.func53, Tryz.ntmps53
  go_wp2
  go_ret
  exact ⟨rfl, rfl⟩
end Go.Proofs.YtfcoebbblfcdoaaGreatDoor
