import Derived.Test.YtfadjgaledddjaaGreatDoorZn
import Derived.Test.YtfadjgaledddjaaGreatDoorZm
import Derived.Test.YtfadjgaledddjaaGreatDoorZe
import Derived.Deep.Cut
import Derived.Deep.RegionWith
import Derived.Test.YtfadjgaledddjaaGreatDoorZb
/- The levels of a paragraph's places. -/
namespace Go.Proofs.YtfadjgaledddjaaGreatDoor
open Go.RowKit
set_option linter.unusedVariables false
set_option maxHeartbeats 2000000
set_option maxRecDepth 100000
theorem SO.small {B : Nat} {w : World} {v : Value} {hs : List (Nat × Nat)} {ss : List Rn.Sq} (h : SO B w v hs ss) : ss.length ≤ maxLen := by
  rcases h.oa.2 with ⟨_, h0⟩ | ⟨g, cap, cur, _, _, _, hle, hm, _⟩
  · rw [h0]; exact Nat.zero_le _
  · omega
theorem placeLevels_form (ao ac : Option Addr) (n cap cc : Nat) (l : List Int) (b : Int) (w : World) (hc : Row .i64 w ac n cc (Rn.cl l)) (hn : n * 8 ≤ 140737488351232) (hb : b = 0 ∨ b = 1) (hF : ¬ Ex.Formed (Rn.cl l)) :
    Calls Tryz.prog 20 #[.slice ao n cap, .slice ac n cc, .int .i64 b] w fun e w' => e = .returned (.tuple #[.slice none 0 0, .int .i64 50]) ∧ w = w' := by
  have HR := hide (resolve_form ac n cc (Rn.cl l) b w hc hn hb hF)
  clear hc hn hb hF
  go_enter Tryz.func20, Tryz.ntmps20
  go_wp2_with (go_at_call 29; refine HR.out.mono ?_; rintro e w' ⟨rfl, rfl⟩)
  go_ret2
  exact ⟨rfl, rfl⟩
theorem placeLevels_any (ao ac : Option Addr) (n cap cc : Nat) (l : List Int) (b : Int) (w : World) (h : Row .i32 w ao n cap l) (hc : Row .i64 w ac n cc (Rn.cl l)) (hf : ∀ x ∈ l, (Lit.int .i32 x).wf = true) (hm : Marks w) (hn : n ≤ 2000) (hb : b = 0 ∨ b = 1) (hF : Ex.Formed (Rn.cl l)) :
    Calls Tryz.prog 20 #[.slice ao n cap, .slice ac n cc, .int .i64 b] w fun e w' => ∃ a1 c1, e = .returned (.tuple #[.slice a1 n c1, .int .i64 0]) ∧ Row .i64 w' a1 n c1 (Rn.VS l b) ∧ KO w w' := by
  have hlen := h.len
  have hcl : (Rn.cl l).length = n := by rw [Rn.cl_len, hlen]
  have HR := hide (resolve_own ac n cc (Rn.cl l) b w hc (by omega) hb hF)
  have HS : Hid (∀ W, KO w W → Calls Tryz.prog 30 #[.slice ac n cc, .int .i64 b] W fun e w' => ∃ sa cs, e = .returned (.tuple #[.slice sa (Rn.SQ b (Rn.cl l)).length cs, .int .i64 0]) ∧ (∃ hs, SO W.heap.size w' (.slice sa (Rn.SQ b (Rn.cl l)).length cs) hs (Rn.SQ b (Rn.cl l))) ∧ Below W.heap.size W w') := hide fun W hk => sequences_own ac n cc (Rn.cl l) b W (hc.below hk) hn hb hF
  have H := hide h
  have HF := hide hf
  have HM := hide hm
  have HG := hide (fun j (hj : j < (Rn.SQ b (Rn.cl l)).length) => Rn.g_of hb hF l (Rn.sq_mem hj))
  have HWS := hide (fun j m (hj : j < (Rn.SQ b (Rn.cl l)).length) (hm : m < ((Rn.SQ b (Rn.cl l)).getD j default).places.length) => Rn.WK_set (l := l) hb hF hj hm)
  have HWN := hide (fun j (hj : j < (Rn.SQ b (Rn.cl l)).length) => Rn.WK_next (l := l) hj)
  have HWE := hide (Rn.WK_end (l := l) hb hF)
  have HWF := hide (Rn.WK_first (l := l) (b := b) (c := Rn.cl l))
  have HIN := hide (fun j (hj : j < (Rn.SQ b (Rn.cl l)).length) i (hi : i ∈ ((Rn.SQ b (Rn.cl l)).getD j default).places) => (show i < n from by have := Rn.sq_in hb hF hj i hi; omega))
  have HSH := hide (fun j (hj : j < (Rn.SQ b (Rn.cl l)).length) => (show ((Rn.SQ b (Rn.cl l)).getD j default).places.length ≤ 2000 from by have := Rn.sq_short hb hF hj; omega))
  have HVS := hide (show Rn.VS l b = Rn.PVs Rn.F13 l b (Rn.cl l) from rfl)
  have HPF := hide (fun x (ps : List Nat) (hp : ∀ i ∈ ps, i < n) (hx : x ∈ Rn.pk l ps) => (show (Lit.int .i32 x).wf = true from by
    unfold Rn.pk at hx
    obtain ⟨i, hi, rfl⟩ := List.mem_map.1 hx
    exact wf_at hf (by rw [hlen]; exact hp i hi)))
  have HTL := hide (show (Ex.TY b (Rn.cl l)).length = n from by rw [Ex.TY_len]; exact hcl)
  unfold Rn.fv at HWS
  rw [HVS.out, ← HWE.out]
  rw [← HWF.out] at HR
  generalize hWK : Rn.WK l b (Rn.cl l) = WK at *
  generalize hSQ : Rn.SQ b (Rn.cl l) = ss at *
  generalize hTY : Ex.TY b (Rn.cl l) = ty at *
  clear hWK hSQ hTY HWE HWF HVS h hf hm hc hb hF hcl hlen
  go_enter Tryz.func20, Tryz.ntmps20
  go_wp2_with fail
  refine HR.out.mono ?_
  rintro e w1 ⟨bl, bt, rfl, hol, hot, hne, hb1⟩
  have HS1 := hide (HS.out w1 hb1)
  have HOL := hide (And.intro hol (And.intro hot (And.intro hne hb1)))
  clear hol hot hne hb1 HS HR
  go_wp2_with fail
  refine HS1.out.mono ?_
  rintro e w2 ⟨sa, cs, rfl, hso, hb2⟩
  have hsm : ss.length ≤ maxLen := by obtain ⟨hs, h1⟩ := hso; exact h1.small
  unfold maxLen at hsm
  have HL0 : Hid (LPW w w2 w1.heap.size bl bt n n n (WK 0 0) ty (.slice sa ss.length cs) ss) := hide ⟨owns_below HOL.out.1 hb2, owns_below HOL.out.2.1 hb2, HOL.out.2.2.1, ⟨(HOL.out.1.lt bl rfl).2, (HOL.out.2.1.lt bt rfl).2⟩, hso, KO.on HOL.out.2.2.2 hb2⟩
  obtain ⟨B, hB⟩ : ∃ B, w1.heap.size = B := ⟨_, rfl⟩
  rw [hB] at HL0
  clear hso hb2 hB HOL HS1
  generalize hN : ss.length = N at *
  have HN := hide hN
  clear hN
  go_wp2
  go_loopw [40] (fun s40 wr => ∃ j : Nat, j ≤ N ∧ s40 = .int .i64 (j : Int) ∧ Hid (LPW w wr B bl bt n n n (WK j 0) ty (.slice sa N cs) ss)) (fun s40 _ => N - (intOf s40).toNat)
  case atStart => exact ⟨0, Nat.zero_le _, rfl, HL0⟩
  case round =>
    obtain ⟨j, hj, rfl, hm⟩ := hrel
    by_cases hlt : j < N
    · have hjs : j < ss.length := by rw [HN.out]; exact hlt
      have hin : (j : Int) < (N : Int) := by omega
      have HLJ := hide hm.out
      obtain ⟨hs, hso⟩ := hm.out.so
      rw [← HN.out] at hso
      obtain ⟨gj, cj, hs1⟩ := hso.one hjs
      obtain ⟨g0, rfl, hg0, c0, c1, c2, c3⟩ := hs1.pos
      have HRJ := hide hs1.row
      have hgj := hs1.le
      have HGJ := hide (HG.out j hlt)
      have HWJ := hide (fun m hm => HWS.out j m hlt hm)
      have HWX := hide (HWN.out j hlt)
      have HIJ := hide (HIN.out j hlt)
      have hsh := HSH.out j hlt
      have hbt := hm.out.lt
      generalize hse : ss.getD j default = s at *
      obtain ⟨ps, x, y, z⟩ := s
      simp only at *
      generalize hnp : ps.length = np at *
      have HNP := hide hnp
      clear hse hm hso hs1 HL0 hnp
      obtain ⟨X, hX⟩ : ∃ X, wr.alloc (.cells #[.slice (some ⟨gj, 0, none⟩) np cj, .int .i64 x, .int .i64 y, .int .i64 z] 57) = X := ⟨_, rfl⟩
      obtain ⟨xb, hxb⟩ : ∃ xb, wr.heap.size = xb := ⟨_, rfl⟩
      have kX : KO wr X := by rw [← hX]; exact KO.alloc (KO.refl _) _
      have hh : X.heap[xb]? = some (.cells #[.slice (some ⟨gj, 0, none⟩) np cj, .int .i64 x, .int .i64 y, .int .i64 z] 57 (0, 0)) := by rw [← hX, ← hxb]; exact heap_alloc_last wr _
      have hW : ∀ W, KO X W → W.heap[xb]? = some (.cells #[.slice (some ⟨gj, 0, none⟩) np cj, .int .i64 x, .int .i64 y, .int .i64 z] 57 (0, 0)) := fun W hk => (Below.block hk xb (Array.getElem?_eq_some_iff.1 hh).1).trans hh
      have x0 : ∀ W, KO X W → W.cell? ⟨xb, 0, none⟩ = some (.slice (some ⟨gj, 0, none⟩) np cj) := fun W hk => by simp [World.cell?, hW W hk]
      have x1 : ∀ W, KO X W → W.cell? ⟨xb, 1, none⟩ = some (.int .i64 x) := fun W hk => by simp [World.cell?, hW W hk]
      have x2 : ∀ W, KO X W → W.cell? ⟨xb, 2, none⟩ = some (.int .i64 y) := fun W hk => by simp [World.cell?, hW W hk]
      have x3 : ∀ W, KO X W → W.cell? ⟨xb, 3, none⟩ = some (.int .i64 z) := fun W hk => by simp [World.cell?, hW W hk]
      have HLX := hide (HLJ.out.keep kX)
      have HRX := hide (HRJ.out.below kX)
      have HPR := hide (fun W (hk : KO X W) => pickr_any ao (some ⟨gj, 0, none⟩) n cap np cj l ps W (H.out.below (KO.on HLX.out.bel hk)) (HRX.out.below hk) HIJ.out (by omega))
      have HPI := hide (fun W (hk : KO X W) => picki_any (some ⟨bt, 0, none⟩) (some ⟨gj, 0, none⟩) n n np cj ty ps W ((HLX.out.keep hk).types) (HRX.out.below hk) HIJ.out (by omega))
      have hK : KO X X := KO.refl X
      clear hh hW kX HLJ HRJ
      go_wp2
      clear c0 c1 c2 c3 hX
      go_cut [14] from 44 to 54 (fun s14 wx => ∃ p an at', s14 = .pointer (some ⟨p, 0, none⟩) ∧ Hid (SV wx p (some ⟨gj, 0, none⟩) np cj x y z an np np at' np (Rn.pk l ps) (Rn.pk ty ps) ∧ KO X wx))
      case first =>
        refine wp_region_noPanic ?_
        go_region_held (fun w' => KO X w') (first | assumption | exact KO.drew hK | exact KO.alloc (by assumption) _)
          (first
            | (go_at_call 31; refine (HPR.out _ (by assumption)).mono ?_; rintro e w3 ⟨rfl, hn3⟩; have kr : KO X w3 := KO.on (by assumption) hn3.bel; have rr := hn3.row; have hb3 := hn3.bel; try (have ri := ri.below hb3))
            | (go_at_call 32; refine (HPI.out _ (by assumption)).mono ?_; rintro e w4 ⟨rfl, hn4⟩; have ki : KO X w4 := KO.on (by assumption) hn4.bel; have ri := hn4.row; have hb4 := hn4.bel; try (have rr := rr.below hb4)))
        all_goals (
          refine NoPanic.normal ?_
          have HE := hide (And.intro rr (And.intro ri (And.intro kr ki)))
          clear hn3 hn4 hb3 hb4 rr ri kr ki x0 x1 x2 x3 hK
          go_wp2
          go_meet
          exact ⟨_, _, _, rfl, hide ⟨⟨heap_alloc_last _ _, HE.out.1.below (KO.alloc (KO.refl _) _), HE.out.2.1.below (KO.alloc (KO.refl _) _)⟩, by assumption⟩⟩)
      obtain ⟨p, an, at', rfl, HSV⟩ := hcut
      have HLC := hide (HLX.out.keep HSV.out.2)
      have HRC := hide (HRX.out.below HSV.out.2)
      have HLV := hide (slevels_any HSV.out.1 HGJ.out (fun q hq => HPF.out q ps HIJ.out hq) (HM.out.below HLC.out.bel) (by omega))
      have HX0 := hide (fun W (hk : KO wc W) => x0 W (KO.on HSV.out.2 hk))
      have HBL := hide (HLC.out.ow.lt bl rfl).2
      generalize Rn.F13 (Rn.pk l ps) (Rn.pk ty ps) x y z = L5 at *
      clear x0 x1 x2 x3 hK HPR HPI HLX HRX HGJ HSV
      go_wp2_with fail
      refine HLV.out.mono ?_
      rintro e w5 ⟨a5, c5, rfl, hr5, hk5, hf5⟩
      have y0 := HX0.out w5 hk5
      have HI0 := hide (And.intro (HLC.out.keep hk5) (And.intro hr5 (HRC.out.below hk5)))
      have HFR := hide hf5
      clear hr5 hk5 hf5 HLV HX0 HLC HRC
      go_wp2
      go_loopw [66] (fun s66 wz => ∃ m : Nat, m ≤ np ∧ s66 = .int .i64 (m : Int) ∧ Hid (LPW w wz B bl bt n n n (WK j m) ty (.slice (some ⟨g0, 0, none⟩) N cs) ss ∧ Row .i64 wz a5 np c5 L5 ∧ Row .i64 wz (some ⟨gj, 0, none⟩) np cj (Rn.zs ps))) (fun s66 _ => np - (intOf s66).toNat)
      case atStart => exact ⟨0, Nat.zero_le _, rfl, HI0⟩
      case round =>
        rename World => wz
        obtain ⟨m, hm, rfl, HI⟩ := hrel
        by_cases hmn : m < np
        · have hmi : (m : Int) < (np : Int) := by omega
          have hml : m < ps.length := by rw [HNP.out]; exact hmn
          have hpl := HIJ.out _ (Rn.getD_mem hml)
          have ca := rowAt HI.out.2.2 (KO.refl _) m hmn
          rw [Nat.zero_add, zs_at ps hml] at ca
          obtain ⟨b5, o5, e5, hb5, hc5⟩ := HI.out.2.1.cells (by omega)
          have cb := hc5 m (by rw [HI.out.2.1.len]; exact hmn)
          obtain ⟨cd, fd⟩ := HI.out.1.cell hpl
          have HI2 : Hid (LPW w (wz.setCell ⟨bl, ps.getD m 0, none⟩ (.int .i64 (L5.getD m 0))) B bl bt n n n (WK j (m + 1)) ty (.slice (some ⟨g0, 0, none⟩) N cs) ss ∧ Row .i64 (wz.setCell ⟨bl, ps.getD m 0, none⟩ (.int .i64 (L5.getD m 0))) a5 np c5 L5 ∧ Row .i64 (wz.setCell ⟨bl, ps.getD m 0, none⟩ (.int .i64 (L5.getD m 0))) (some ⟨gj, 0, none⟩) np cj (Rn.zs ps)) := by
            refine hide ⟨?_, fresh_apart HI.out.2.1 HFR.out HBL.out _ _, row_apart HI.out.2.2 (by omega) _ _⟩
            rw [← HWJ.out m hmn]
            exact HI.out.1.set _ _
          subst e5
          have hpi : ((ps.getD m 0 : Nat) : Int) < (n : Int) := by omega
          clear hc5 HI HI0
          generalize L5.getD m 0 = v5 at *
          generalize (WK j m).getD (ps.getD m 0) 0 = v0 at *
          generalize ps.getD m 0 = pm at *
          go_wp2
          go_roundw
          case rel => exact ⟨m + 1, by omega, by go_num, HI2⟩
          case measure => simp [intOf]; omega
        · obtain rfl : m = np := by omega
          have hne2 : ¬ ((m : Int) < (m : Int)) := by omega
          have HJ2 := HI.out.1
          rw [HWX.out] at HJ2
          have HJ3 := hide HJ2
          clear HJ2 HI HI0
          go_wp2
          go_roundw
          case rel => exact ⟨j + 1, by omega, by go_num, HJ3⟩
          case measure => simp [intOf]; omega
    · obtain rfl : j = N := by omega
      have hne : ¬ ((j : Int) < (j : Int)) := by omega
      have HE := hide (show Row .i64 wr (some ⟨bl, 0, none⟩) n n (WK ss.length 0) ∧ KO w wr from ⟨by rw [HN.out]; exact hm.out.levels, hm.out.bel⟩)
      clear hm
      go_wp2
      go_ret2
      exact ⟨_, _, rfl, HE.out.1, HE.out.2⟩
end Go.Proofs.YtfadjgaledddjaaGreatDoor

/- Paragraph: its contract. -/
namespace Go.Proofs.YtfadjgaledddjaaGreatDoor
open Go.RowKit
set_option linter.unusedVariables false
set_option maxHeartbeats 1000000
set_option maxRecDepth 100000
theorem bb3 (base : Int) : (Rn.BB base ∧ ¬ base < -1 ∧ ¬ 1 < base) ∨ (¬ Rn.BB base ∧ base < -1) ∨ (¬ Rn.BB base ∧ ¬ base < -1 ∧ 1 < base) := by
  unfold Rn.BB
  omega
/-- What Paragraph answers, in memory. -/
def RPA (w : World) (m : Int) (L : List Int) (E : Int) (e : Ending) (w' : World) : Prop := ∃ a1 c1, e = .returned (.tuple #[.int .i64 m, .slice a1 L.length c1, .int .i64 E]) ∧ Row .i64 w' a1 L.length c1 L ∧ KO w w'
theorem RPA.err {w w' : World} {E : Int} (hk : KO w w') : RPA w 0 [] E (.returned (.tuple #[.int .i64 0, .slice none 0 0, .int .i64 E])) w' := ⟨none, 0, rfl, row_nil _ _, hk⟩
theorem paragraph_any (ao : Option Addr) (n cap : Nat) (l : List Int) (base : Int) (w : World) (h : Row .i32 w ao n cap l) (hf : ∀ x ∈ l, (Lit.int .i32 x).wf = true) (hM : Marks w) (hn : n ≤ 2000 ∨ 4096 < n) (m : Int) (L : List Int) (E : Int) (hA : Rn.PA l base m L E) :
    Calls Tryz.prog 10 #[.slice ao n cap, .int .i64 base] w (RPA w m L E) := by
  have hl := h.len
  rcases bb3 base with ⟨hb, h1, h2⟩ | ⟨hb, h1⟩ | ⟨hb, h1, h2⟩
  · by_cases hbig : 4096 < n
    · obtain ⟨rfl, rfl, rfl⟩ : m = 0 ∧ L = [] ∧ E = 3 := by
        rcases hA with ⟨q, _⟩ | ⟨_, _, q⟩ | ⟨_, q, _⟩ | ⟨_, q, _⟩
        · exact absurd hb q
        · exact q
        · omega
        · omega
      have hbig2 : (4096 : Int) < (n : Int) := by omega
      clear h hf hA hl hb hM hn
      go_enter Tryz.func10, Tryz.ntmps10
      go_wp2
      go_ret3
      exact RPA.err (KO.refl _)
    · have hbig2 : ¬ (4096 : Int) < (n : Int) := by omega
      have hn2 : n ≤ 2000 := by omega
      have hE : (¬ Ex.Formed (Rn.cl l) ∧ m = 0 ∧ L = [] ∧ E = 50) ∨ (Ex.Formed (Rn.cl l) ∧ m = Rn.bl base l ∧ L = Rn.VS l (Rn.bl base l) ∧ E = 0) := by
        rcases hA with ⟨q, _⟩ | ⟨_, q, _⟩ | ⟨_, _, q⟩ | ⟨_, _, q⟩
        · exact absurd hb q
        · omega
        · exact .inl q
        · exact .inr q
      have HC := hide (classes_any ao n cap l w h hf (by omega))
      have h2b := Rn.bl_two hb l
      have hcl : (Rn.cl l).length = n := by rw [Rn.cl_len, hl]
      have HB := hide (fun W (h0 : Row .i64 W (some ⟨w.heap.size, 0, none⟩) n n (Rn.cl l)) => (show Calls Tryz.prog 19 #[.slice (some ⟨w.heap.size, 0, none⟩) n n, .int .i64 0, .int .i64 (n : Int)] W fun e w' => e = .returned (.tuple #[.int .i64 (Iso.bso 0 (Rn.cl l)), .int .i64 0]) ∧ W = w' from by
        have := base_ok (some ⟨w.heap.size, 0, none⟩) n n (Rn.cl l) 0 n W h0 (by omega) (Nat.zero_le _) (Nat.le_refl _)
        rw [List.take_of_length_le (by rw [hcl]; exact Nat.le_refl _), List.drop_zero] at this
        exact this))
      have hbl : (base = -1 ∧ Rn.bl base l = Iso.bso 0 (Rn.cl l)) ∨ (¬ base = -1 ∧ Rn.bl base l = base) := by
        unfold Rn.bl
        by_cases e : base = -1
        · exact .inl ⟨e, if_pos e⟩
        · exact .inr ⟨e, if_neg e⟩
      have HP := hide (fun W b (hk : KO w W) (h0 : Row .i64 W (some ⟨w.heap.size, 0, none⟩) n n (Rn.cl l)) (hb' : b = 0 ∨ b = 1) => And.intro (fun hF => placeLevels_any ao (some ⟨w.heap.size, 0, none⟩) n cap n l b W (h.below hk) h0 hf (hM.below hk) hn2 hb' hF) (fun hF => placeLevels_form ao (some ⟨w.heap.size, 0, none⟩) n cap n l b W h0 (by omega) hb' hF))
      have HVL := hide (show (Rn.VS l (Rn.bl base l)).length = n from by rw [Rn.VS_len, hl])
      clear h hf hM hA hb hl hcl
      generalize hbb : Rn.bl base l = bb at *
      have HHB : ∀ W (h0 : Row .i64 W (some ⟨w.heap.size, 0, none⟩) n n (Rn.cl l)) (hk : KO w W), Calls Tryz.prog 20 #[.slice ao n cap, .slice (some ⟨w.heap.size, 0, none⟩) n n, .int .i64 bb] W fun e w' => ∃ a1 c1, e = .returned (.tuple #[.slice a1 L.length c1, .int .i64 E]) ∧ Row .i64 w' a1 L.length c1 L ∧ KO W w' ∧ ((E = 0 ∧ m = bb) ∨ (¬ E = 0 ∧ m = 0 ∧ L = [])) := by
        intro W h0 hk
        rcases hE with ⟨hF, rfl, rfl, rfl⟩ | ⟨hF, rfl, rfl, rfl⟩
        · refine ((HP.out W bb hk h0 h2b).2 hF).mono ?_
          rintro e w' ⟨rfl, rfl⟩
          exact ⟨none, 0, rfl, row_nil _ _, KO.refl _, .inr ⟨by decide, rfl, rfl⟩⟩
        · refine ((HP.out W _ hk h0 h2b).1 hF).mono ?_
          rintro e w' ⟨a1, c1, rfl, hr, hk2⟩
          rw [HVL.out]
          exact ⟨a1, c1, rfl, hr, hk2, .inl ⟨rfl, rfl⟩⟩
      have HH := hide HHB
      clear hE HVL HHB HP hbb
      rcases hbl with ⟨rfl, hbl⟩ | ⟨hbl1, hbl⟩
      · rw [← hbl] at HB
        clear hbl
        go_enter Tryz.func10, Tryz.ntmps10
        go_wp2_with fail
        refine HC.out.mono ?_
        rintro e w1 ⟨rfl, hn1⟩
        have HB1 := hide (HB.out w1 hn1.row)
        have HH1 := hide (HH.out w1 hn1.row hn1.bel)
        have HK1 := hide hn1.bel
        clear hn1 HB HH HC
        go_wp2_with fail
        refine HB1.out.mono ?_
        rintro e w2 ⟨rfl, rfl⟩
        go_wp2_with fail
        refine HH1.out.mono ?_
        rintro e w3 ⟨a1, c1, rfl, hr, hk, hE⟩
        have HR := hide (And.intro hr (KO.on HK1.out hk))
        clear hr hk HH1 HB1 HK1
        rcases hE with ⟨rfl, rfl⟩ | ⟨hE, rfl, rfl⟩
        · go_wp2
          go_ret3
          exact ⟨_, _, rfl, HR.out.1, HR.out.2⟩
        · have hEb : (E != 0) = true := bne_iff_ne.2 hE
          go_wp2
          go_ret3
          exact RPA.err HR.out.2
      · subst hbl
        clear HB
        have hbq : (bb == -1) = false := beq_false_of_ne hbl1
        go_enter Tryz.func10, Tryz.ntmps10
        go_wp2_with fail
        refine HC.out.mono ?_
        rintro e w1 ⟨rfl, hn1⟩
        have HH1 := hide (HH.out w1 hn1.row hn1.bel)
        have HK1 := hide hn1.bel
        clear hn1 HH HC
        go_wp2_with fail
        refine HH1.out.mono ?_
        rintro e w3 ⟨a1, c1, rfl, hr, hk, hE⟩
        have HR := hide (And.intro hr (KO.on HK1.out hk))
        clear hr hk HH1 HK1
        rcases hE with ⟨rfl, rfl⟩ | ⟨hE, rfl, rfl⟩
        · go_wp2
          go_ret3
          exact ⟨_, _, rfl, HR.out.1, HR.out.2⟩
        · have hEb : (E != 0) = true := bne_iff_ne.2 hE
          go_wp2
          go_ret3
          exact RPA.err HR.out.2
  · obtain ⟨rfl, rfl, rfl⟩ : m = 0 ∧ L = [] ∧ E = 2 := by
      rcases hA with ⟨_, q⟩ | ⟨q, _⟩ | ⟨q, _⟩ | ⟨q, _⟩
      · exact q
      all_goals exact absurd q hb
    clear h hf hA hb hl hM hn
    go_enter Tryz.func10, Tryz.ntmps10
    go_wp2
    go_ret3
    exact RPA.err (KO.refl _)
  · obtain ⟨rfl, rfl, rfl⟩ : m = 0 ∧ L = [] ∧ E = 2 := by
      rcases hA with ⟨_, q⟩ | ⟨q, _⟩ | ⟨q, _⟩ | ⟨q, _⟩
      · exact q
      all_goals exact absurd q hb
    clear h hf hA hb hl hM hn
    go_enter Tryz.func10, Tryz.ntmps10
    go_wp2
    go_ret3
    exact RPA.err (KO.refl _)
end Go.Proofs.YtfadjgaledddjaaGreatDoor
