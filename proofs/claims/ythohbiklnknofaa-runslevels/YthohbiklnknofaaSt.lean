/- Sequences, of a paragraph. -/
import Derived.Test.YthohbiklnknofaaSs
namespace Go.Proofs.Ythohbiklnknofaa
open Go.RowKit Go.Maps
set_option linter.unusedVariables false
set_option maxHeartbeats 1000000
set_option maxRecDepth 100000
/-- What Sequences keeps. -/
structure QI (X : World) (b : Int) (lv mt : List Int) (rs : List (List Nat)) (k : Nat) (v : Value) (wr : World) : Prop where
  so : ∃ hs, SO X.heap.size wr v hs (Rn.sqs b lv mt rs k)
  bel : Below X.heap.size X wr
theorem sequences_ok (ao : Option Addr) (n cap0 : Nat) (c : List Int) (b : Int) (w : World) (h : Row .i64 w ao n cap0 c) (hn : n ≤ 2000) (hb : b = 0 ∨ b = 1) (hF : Ex.Formed c) :
    Calls Try.prog 14 #[.slice ao n cap0, .int .i64 b] w fun e w' => ∃ sa cs, e = .returned (.tuple #[.slice sa (Rn.sqs b (Ex.LV b c) (Iso.MT c) (Rn.RS (Ex.LV b c)) (Rn.RS (Ex.LV b c)).length).length cs, .int .i64 0]) ∧ SL w' sa (Rn.sqs b (Ex.LV b c) (Iso.MT c) (Rn.RS (Ex.LV b c)) (Rn.RS (Ex.LV b c)).length).length cs (Rn.sqs b (Ex.LV b c) (Iso.MT c) (Rn.RS (Ex.LV b c)) (Rn.RS (Ex.LV b c)).length) ∧ Below w.heap.size w w' := by
  have hlen := h.len
  have HR := hide (resolve_ok ao n cap0 c b w h (by omega) hb hF)
  have HM := hide (fun w' (hk : KO w w') => match_any ao n cap0 c w' (h.below hk) (by omega))
  have hmr := mt_range c
  rw [hlen] at hmr
  have HMR := hide hmr
  have HLL := hide (fun ao' w' (h' : Row .i64 w' ao' n n (Ex.LV b c)) => levels_any ao' n n (Ex.LV b c) w' h' (by omega))
  have hrl : (Rn.RS (Ex.LV b c)).length ≤ n := by
    have h1 := Rn.R_len (Ex.LV b c) (Ex.LV b c).length
    rw [Ex.LV_len] at h1
    unfold Rn.RS
    rw [Ex.LV_len, ← hlen]
    exact h1
  have HLVL := hide (show (Ex.LV b c).length = n from by rw [Ex.LV_len, hlen])
  generalize Ex.LV b c = lv at *
  generalize Iso.MT c = mt at *
  have hR := Rn.runs_of lv
  have hfb : ∀ j, j < (Rn.RS lv).length → Rn.fst (Rn.RS lv) j ≤ 17592186044416 := fun j hj => by
    have := (hR.kept j 0 hj (hR.pos j hj)).1
    rw [HLVL.out] at this
    have e : (Rn.rn (Rn.RS lv) j).getD 0 0 = Rn.fst (Rn.RS lv) j := rfl
    omega
  have hfd : ∀ i j, i < j → j < (Rn.RS lv).length → ¬ Rn.fst (Rn.RS lv) i = Rn.fst (Rn.RS lv) j := fun i j hij hj e => by have := fst_apart hR j i hij hj; omega
  have HFI := hide (fun ao' cap' w' (h' : LL w' ao' (Rn.RS lv).length cap' (Rn.RS lv)) => firsts_any ao' (Rn.RS lv).length cap' (Rn.RS lv) w' h' (by omega) hR.pos hfb hfd)
  have HPOS := hide hR.pos
  have HMK := hide (fun (W W5 : World) (bl bm : Nat) (aoo : Option Addr) (capp : Nat) => PG.make (w := w) (W := W) (W5 := W5) (b := b) (lv := lv) (mt := mt) (bl := bl) (bm := bm) (n := n) (ao := aoo) (cap := capp))
  have hbp := build_para
  have hbs := build_seq1
  obtain ⟨ii, hii, hy0, hy1, hy2⟩ := info_parts seqInfo3
  have HII := hide hii
  have HY0 := hide hy0
  have HY1 := hide hy1
  have HY2 := hide hy2
  generalize Rn.RS lv = rs at *
  generalize hNN : rs.length = N at *
  have HNN := hide hNN
  clear h hF hR hfb hfd hmr hii hy0 hy1 hy2 hNN hlen hb
  go_enter Try.func14, Try.ntmps14
  go_wp2_with fail
  refine HR.out.mono ?_
  rintro e w1 ⟨bl, bt, rfl, rl, rt, hb1⟩
  have HM1 := hide (HM.out w1 hb1)
  have HB1 := hide hb1
  have HRL := hide rl
  clear rl rt hb1 HR HM
  go_wp2_with fail
  refine HM1.out.mono ?_
  rintro e w2 ⟨rfl, hom, hb2⟩
  have HRM := hide (row_owned hom)
  have HRL2 := hide (HRL.out.below hb2)
  have HB2 := hide (KO.on HB1.out hb2)
  have HL2 := hide (HLL.out _ w2 HRL2.out)
  clear hom hb2 HM1 HB1 HRL
  go_wp2_with fail
  refine HL2.out.mono ?_
  rintro e w3 ⟨v, rfl, ⟨vs, hlo⟩, hb3⟩
  obtain ⟨a3, cap3, rfl, ll⟩ := hlo.view (by rw [HNN.out]; exact HPOS.out)
  rw [HNN.out] at ll ⊢
  have rl3 := HRL2.out.below hb3
  have rm3 := HRM.out.below hb3
  have HB3 := hide (KO.on HB2.out hb3)
  have hsz4 : ∀ o : Obj, (w3.alloc o).heap.size = w3.heap.size + 1 := fun o => by simp
  have HF4 := hide (fun o => HFI.out a3 cap3 (w3.alloc o) (ll.below ((Below.refl _ _).alloc (Nat.le_refl _) o)))
  have HMK4 := hide (fun W5 => HMK.out w3 W5 bl w1.heap.size a3 cap3 rl3 rm3 ll hn)
  clear hlo hb3 HRL2 HRM HB2 HL2 HLL HMK HFI rl3 rm3 ll
  go_wp2_with fail
  refine (HF4.out _).mono ?_
  rintro e w5 ⟨rfl, hmap, hb5⟩
  rw [hsz4] at hmap hb5 ⊢
  obtain ⟨hpg, c3, c4, f4, hbx⟩ := HMK4.out w5 hb5 hmap
  obtain ⟨X, hX⟩ : ∃ X, w5.setCell ⟨w3.heap.size, 4, none⟩ (.map (some (w3.heap.size + 1))) = X := ⟨_, rfl⟩
  rw [hX] at hpg hbx
  generalize hpp : w3.heap.size = p at *
  have HPG := hide hpg
  have HBX := hide (show KO w X from HB3.out.on (by rw [hpp]; exact hbx))
  have x3 := hpg.c3
  have hN2 := hpg.le
  clear hmap hb5 HMK4 HF4 hpg hbx HB3 hpp hsz4
  go_wp2
  go_loopw [10, 43] (fun v i wr => ∃ k : Nat, k ≤ N ∧ i = .int .i64 (k : Int) ∧ Hid (QI X b lv mt rs k v wr)) (fun _ i _ => N - (intOf i).toNat)
  case atStart => exact ⟨0, Nat.zero_le _, rfl, hide ⟨⟨[], SO.begin _ _⟩, Below.refl _ _⟩⟩
  case round =>
    obtain ⟨k, hk, rfl, hm⟩ := hrel
    obtain ⟨⟨hs, hso⟩, hbw⟩ := hm.out
    obtain ⟨av, cv, rfl, hav⟩ := owns_form hso.oa
    have HSO := hide hso
    have HBW := hide hbw
    have hsl := Rn.sqs_len b lv mt rs k
    by_cases hlt : k < N
    · have hpw := HPG.out.below hbw
      have HBE := hide (begins_any hpw hlt)
      have HSE := hide (sequence_any hpw HMR.out hlt)
      have hin : (k : Int) < (N : Int) := by omega
      have hszX : X.heap.size ≤ wr.heap.size := hbw.size
      cases hbg : Rn.bg mt rs k with
      | false =>
        rw [hbg] at HBE
        have HQ : Hid (QI X b lv mt rs (k + 1) (.slice av (Rn.sqs b lv mt rs k).length cv) wr) := ⟨⟨hs, by rw [Rn.sqs_no hbg]; exact hso⟩, hbw⟩
        clear hm hso hbw hpw hbg HSE HSO
        generalize (Rn.sqs b lv mt rs k).length = L at *
        go_wp2_with (go_at_call 23; refine HBE.out.mono ?_; rintro e w' ⟨rfl, rfl⟩)
        go_roundw
        case rel => exact ⟨k + 1, by omega, by go_num, HQ⟩
        case measure => simp [intOf]; omega
      | true =>
        rw [hbg] at HBE
        have HSY := hide (Rn.sqs_yes (b := b) (lv := lv) hbg)
        have hsq : Rn.sq b lv mt rs k = ⟨Rn.plc rs (Rn.chn (Rn.fo mt rs) (N - k) k), Rn.lvl lv rs k, Rn.sd (Rn.lvl lv rs k) (Rn.ah b lv rs k), Rn.sd (Rn.lvl lv rs k) (Rn.bh b lv mt rs (Rn.ltc (Rn.fo mt rs) (N - k) k))⟩ := by unfold Rn.sq; rw [HNN.out]
        rw [hsq] at HSY
        have HOA := hide hso.oa
        generalize Rn.plc rs (Rn.chn (Rn.fo mt rs) (N - k) k) = ps at *
        generalize Rn.sd (Rn.lvl lv rs k) (Rn.ah b lv rs k) = y at *
        generalize Rn.sd (Rn.lvl lv rs k) (Rn.bh b lv mt rs (Rn.ltc (Rn.fo mt rs) (N - k) k)) = z at *
        generalize Rn.lvl lv rs k = x at *
        generalize hLL : (Rn.sqs b lv mt rs k).length = L at *
        have HLE := hide hLL
        have hpx : ∀ (w' : World) (hb' : Below wr.heap.size wr w'), SO X.heap.size w' (.slice av L cv) hs (Rn.sqs b lv mt rs k) := fun w' hb' => HSO.out.below hb'
        have HPX := hide hpx
        clear hm hso hbw hpw hbg hsq hLL hpx
        go_wp2_with (first
          | (go_at_call 23; refine HBE.out.mono ?_; rintro e w' ⟨rfl, rfl⟩)
          | (go_at_call 24; refine HSE.out.mono ?_; rintro e w6 ⟨g6, c6, rfl, how6, hb6⟩; have hs6 := HPX.out w6 hb6; have hz6 := hb6.size)
          | (at_builtin; refine wpList_append_own_at _ rfl (.tmp 49) (.tmp 53) 29 rfl X.heap.size 36 ii _ 4 48 Try.underlying29 HII.out HY0.out HY1.out HY2.out rfl (by decide) (.slice av L cv) L (scs hs (Rn.sqs b lv mt rs k)) rfl (show (w6.alloc (.cells (sc (g6, c6) ⟨ps, x, y, z⟩).toArray 36)).ownsRow X.heap.size 36 4 (.slice av L cv) L (scs hs (Rn.sqs b lv mt rs k)) from (by rw [← HLE.out]; rw [← HLE.out] at hs6; exact hs6.oa.alloc _)) ⟨w6.heap.size, 0, none⟩ 1 1 (sc (g6, c6) ⟨ps, x, y, z⟩) rfl rfl (cells_new w6 (sc (g6, c6) ⟨ps, x, y, z⟩) 36) (sc_one _ _) (by unfold maxLen; omega) (by omega) (by simp; omega) ?_; intro v7 w7 ho7 hg7 _ _; obtain ⟨g7, c7, rfl, _, _⟩ := owns_pos ho7 (by omega)))
        go_roundw
        case rel =>
          refine ⟨k + 1, by omega, by go_num, hide ⟨⟨hs ++ [(g6, c6)], ?_⟩, ?_⟩⟩
          · rw [HSY.out]
            refine (hs6.below ((Below.refl _ _).alloc (Nat.le_refl _) _)).push (s := ⟨ps, x, y, z⟩) (owns_below (owns_mono how6 hszX) ((Below.refl _ _).alloc (Nat.le_refl _) _)) ?_ hg7
            rw [HLE.out]
            exact ho7
          · exact grown_alloc (HBW.out.trans (hb6.mono hszX)) (by omega) hg7 (fun q hq => (HOA.out.lt q hq).1)
        case measure => simp [intOf]; omega
    · obtain rfl : k = N := by omega
      have hne : ¬ ((k : Int) < (k : Int)) := by omega
      obtain ⟨sa, cs, e4, hsl2⟩ := hso.view
      have HSL := hide hsl2
      have HB := hide (KO.on HBX.out hbw)
      rw [e4]
      clear hm hso hbw hlt HSO HBW e4 hav hsl2
      generalize hLL : (Rn.sqs b lv mt rs k).length = L at *
      have HLE := hide hLL
      clear hLL
      go_wp2
      go_ret2
      have hq := HLE.out
      subst hq
      exact ⟨sa, cs, rfl, HSL.out, HB.out⟩
end Go.Proofs.Ythohbiklnknofaa
