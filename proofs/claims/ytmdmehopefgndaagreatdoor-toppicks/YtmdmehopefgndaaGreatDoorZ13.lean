import Derived.Test.YtmdmehopefgndaaGreatDoorZ11
import Derived.Deep.Cut
import Derived.Deep.CutRange
import Derived.Test.YtmdmehopefgndaaGreatDoorZ12
/- Resolve: explicit levels and types. -/

namespace Go.Proofs.YtmdmehopefgndaaGreatDoor
open Go.RowKit
set_option linter.unusedVariables false
set_option maxHeartbeats 2000000
set_option maxRecDepth 100000
theorem resolve_arg (ao : Option Addr) (n cap : Nat) (b : Int) (w : World) (hb : ¬ b = 0 ∧ ¬ b = 1) :
    Calls Tryz.prog 38 #[.slice ao n cap, .int .i64 b] w fun e w' => e = .returned (.tuple #[.slice none 0 0, .slice none 0 0, .int .i64 2]) ∧ w = w' := by
  have h1 : (b != 0) = true := bne_iff_ne.2 hb.1
  have h2 : (b != 1) = true := bne_iff_ne.2 hb.2
  go_enter Tryz.func38, Tryz.ntmps38
  go_wp2
  go_ret3
  exact ⟨rfl, rfl⟩
theorem resolve_form (ao : Option Addr) (n cap : Nat) (c : List Int) (b : Int) (w : World) (h : Row .i64 w ao n cap c) (hn : n * 8 ≤ 140737488351232) (hb : b = 0 ∨ b = 1) (hF : ¬ Ex.Formed c) :
    Calls Tryz.prog 38 #[.slice ao n cap, .int .i64 b] w fun e w' => e = .returned (.tuple #[.slice none 0 0, .slice none 0 0, .int .i64 50]) ∧ w = w' := by
  have HP := hide (isPara_any ao n cap c w h hn false (by simp [hF]))
  clear h hn hF
  rcases hb with rfl | rfl
  all_goals
    go_enter Tryz.func38, Tryz.ntmps38
    go_wp2_with (go_at_call 50; refine HP.out.mono ?_; rintro e w' ⟨rfl, rfl⟩)
    go_ret3
    exact ⟨rfl, rfl⟩
theorem build_bot (l : Int) (w : World) : (Instr.build 106 #[(0, .int .i64 l)]).run Tryz.prog w = .ok (.agg #[.int .i64 l, .int .i64 0, .bool false]) w := run_build w 106 _ _ (by kernel_rfl)
theorem build_stack (v : Option Addr) (n cap : Nat) (w : World) : (Instr.build 109 #[(0, .slice v n cap)]).run Tryz.prog w = .ok (.agg #[.slice v n cap, .int .i64 0, .int .i64 0, .int .i64 0]) w := run_build w 109 _ _ (by kernel_rfl)
/-- The stack as Resolve begins it. -/
theorem sa_begin (w : World) (b : Int) (B : Nat) (hB : w.heap.size = B) : SA B ((w.alloc (.cells #[.int .i64 b, .int .i64 0, .bool false] 106)).alloc (.cells #[.slice (some ⟨B, 0, none⟩) 1 1, .int .i64 0, .int .i64 0, .int .i64 0] 109)) (B + 1) (Ex.s0 b) B 1 := by
  subst hB
  have h1 : (w.alloc (.cells #[.int .i64 b, .int .i64 0, .bool false] 106)).heap.size = w.heap.size + 1 := by simp
  refine ⟨by omega, ?_, ?_, by omega⟩
  · have := heap_alloc_last (w.alloc (.cells #[.int .i64 b, .int .i64 0, .bool false] 106)) (.cells #[.slice (some ⟨w.heap.size, 0, none⟩) 1 1, .int .i64 0, .int .i64 0, .int .i64 0] 109)
    rw [h1] at this
    exact this
  · refine ⟨rfl, .inr ⟨w.heap.size, 1, #[.int .i64 b, .int .i64 0, .bool false], rfl, Nat.le_refl _, ?_, Nat.le_refl _, by unfold maxLen; omega, rfl, by simp [Ex.s0, Ex.bot, ents, ec]⟩⟩
    have hb := (Below.alloc (Below.refl (w.heap.size + 1) (w.alloc (.cells #[.int .i64 b, .int .i64 0, .bool false] 106))) (by omega) (.cells #[.slice (some ⟨w.heap.size, 0, none⟩) 1 1, .int .i64 0, .int .i64 0, .int .i64 0] 109)).block w.heap.size (by omega)
    exact hb.trans (heap_alloc_last w _)
theorem mid_other {S : Ex.St} {x : Int} (h : ¬ x = 17 ∧ ¬ x = 15 ∧ ¬ x = 18 ∧ ¬ x = 16 ∧ ¬ x = 19 ∧ ¬ x = 23) : Ex.mid S x = S := by
  have he : Ex.em x = false := by unfold Ex.em; simp [h]
  unfold Ex.mid
  rw [he, if_neg (by decide), if_neg h.2.2.2.2.1, if_neg h.2.2.2.2.2]
theorem step_other {S : Ex.St} {x : Int} {r : List Int} (h : ¬ x = 17 ∧ ¬ x = 15 ∧ ¬ x = 18 ∧ ¬ x = 16 ∧ ¬ x = 19 ∧ ¬ x = 23) (h2 : ¬ x = 20 ∧ ¬ x = 21 ∧ ¬ x = 22) : Ex.step S x r = S := by
  have hs : Iso.st x = false := by unfold Iso.st; simp [h2]
  unfold Ex.step
  rw [hs, mid_other h]
  rfl
theorem resolve_own (ao : Option Addr) (n cap0 : Nat) (c : List Int) (b : Int) (w : World) (h : Row .i64 w ao n cap0 c) (hn : n * 8 ≤ 140737488351232) (hb : b = 0 ∨ b = 1) (hF : Ex.Formed c) :
    Calls Tryz.prog 38 #[.slice ao n cap0, .int .i64 b] w fun e w' => ∃ bl bt, e = .returned (.tuple #[.slice (some ⟨bl, 0, none⟩) n n, .slice (some ⟨bt, 0, none⟩) n n, .int .i64 0]) ∧ w'.ownsRow w.heap.size 3 1 (.slice (some ⟨bl, 0, none⟩) n n) n ((Ex.LV b c).map (Value.int .i64)) ∧ w'.ownsRow w.heap.size 3 1 (.slice (some ⟨bt, 0, none⟩) n n) n ((Ex.TY b c).map (Value.int .i64)) ∧ ¬ bl = bt ∧ Below w.heap.size w w' := by
  have HP := hide (isPara_any ao n cap0 c w h hn true (by simp [hF]))
  have HM := hide (match_any ao n cap0 c w h hn)
  obtain ⟨cur, hcur, hmk⟩ := made_ints n hn
  have HCU := hide hcur
  have H := hide h
  have HL := hide h.len
  have hn2 : n ≤ 17592186044416 := by omega
  have HN := hide hn
  have hb0 : 0 ≤ b := by omega
  have hb1' : b ≤ 1 := by omega
  have hbd := build_bot
  have hbo := build_ent1
  have hbs := build_stack
  have hbb : b = 0 ∨ (¬ b = 0 ∧ b = 1) := by omega
  clear h hn hF hcur hb
  go_enter Tryz.func38, Tryz.ntmps38
  go_upto_region 1 with fail
  go_cut [16] from 11 to 16 (fun s16 wx => s16 = .bool false ∧ w = wx)
  case first =>
    rcases hbb with rfl | ⟨h1, rfl⟩
    all_goals
      go_wp2
      go_meet
      exact ⟨rfl, rfl⟩
  obtain ⟨rfl, rfl⟩ := hcut
  clear hbb
  go_upto_region 6 with (first
    | (go_at_call 50; refine HP.out.mono ?_; rintro e w' ⟨rfl, rfl⟩)
    | (go_at_call 51; refine HM.out.mono ?_; rintro e w1 ⟨rfl, ho1, hb1⟩))
  go_cut [4, 5] from 22 to 27 (fun s4 s5 wx => ∃ bl bt : Nat, s4 = .slice (some ⟨bl, 0, none⟩) n n ∧ s5 = .slice (some ⟨bt, 0, none⟩) n n ∧ wx.heap.size = w1.heap.size + 2 ∧ Below w1.heap.size w1 wx ∧ ((bl = w1.heap.size ∧ bt = w1.heap.size + 1) ∨ (bt = w1.heap.size ∧ bl = w1.heap.size + 1)) ∧ wx.heap[bl]? = some (.cells cur 3 (0, 0)) ∧ wx.heap[bt]? = some (.cells cur 3 (0, 0)))
  case first =>
    go_region
    · go_wp2
      go_meet
      refine ⟨_, _, rfl, rfl, by simp, ((Below.refl _ w1).alloc (Nat.le_refl _) _).alloc (by simp) _ |>.drew, .inl ⟨rfl, rfl⟩, ?_, ?_⟩
      · exact heap_alloc2_old w1 _ _
      · exact heap_alloc2_new w1 _ _
    · go_wp2
      go_meet
      refine ⟨_, _, rfl, rfl, by simp, ((Below.refl _ w1).alloc (Nat.le_refl _) _).alloc (by simp) _ |>.drew, .inr ⟨rfl, rfl⟩, ?_, ?_⟩
      · exact heap_alloc2_new w1 _ _
      · exact heap_alloc2_old w1 _ _
  obtain ⟨bl, bt, rfl, rfl, hsz, hbw, hbb, hgl, hgt⟩ := hcut
  obtain ⟨B, hB⟩ : ∃ B, wc.heap.size = B := ⟨_, rfl⟩
  have hsa := sa_begin wc b B hB
  have hw1 := hb1.size
  have hwb : w.heap.size < w1.heap.size := (ho1.lt w.heap.size rfl).2
  have hrm : RM w B bl bt w.heap.size n (Iso.MT c) (Ex.PL (Ex.lev b (Ex.s0 b) c) n 0) (Ex.PL (Ex.typ (Ex.s0 b) c) n 0) wc := by
    rw [Ex.PL_zero, Ex.PL_zero]
    refine ⟨owns_block hgl HCU.out (by simp) (by unfold maxLen; omega) (by omega), owns_block hgt HCU.out (by simp) (by unfold maxLen; omega) (by omega), owns_below ho1 hbw, by omega, by omega, by omega, hb1.trans (hbw.mono hw1)⟩
  have HO : Hid (RV w B (B + 1) bl bt w.heap.size n b c 0 ((wc.alloc (.cells #[.int .i64 b, .int .i64 0, .bool false] 106)).alloc (.cells #[.slice (some ⟨B, 0, none⟩) 1 1, .int .i64 0, .int .i64 0, .int .i64 0] 109))) := by
    refine ⟨hrm.keep ?_, ⟨B, 1, hsa⟩⟩
    exact ((Below.refl B wc).alloc (by omega) _).alloc (by simp; omega) _
  clear hsa hrm hgl hgt hbw hw1 hwb ho1 hb1 hbb hsz
  subst hB
  go_wp2_with fail
  generalize wc.heap.size = B at *
  go_loopw [35] (fun s35 wr => ∃ k : Nat, k ≤ n ∧ s35 = .int .i64 (k : Int) ∧ Hid (RV w B (B + 1) bl bt w.heap.size n b c k wr)) (fun s35 _ => n - (intOf s35).toNat)
  case atStart => exact ⟨0, Nat.zero_le _, rfl, HO⟩
  case round =>
    clear HO
    obtain ⟨k, hk, rfl, hv⟩ := hrel
    by_cases hlt : k < n
    · have hkl : k < c.length := by rw [HL.out]; exact hlt
      obtain ⟨cb, off, rfl, hbl, hc⟩ := H.out.cells (by omega)
      have ck : wr.cell? ⟨cb, off + k, none⟩ = some (.int .i64 (c.getD k 0)) := (hv.out.rm.bel.cell (by exact hbl)).trans (hc k hkl)
      have hin : (k : Int) < (n : Int) := by omega
      obtain ⟨g, cap, hsa⟩ := hv.out.sa
      have hok : Ex.Ok b (Ex.at' (Ex.s0 b) c k) k := Ex.Ok.at c k
      have hokm := hok.mid (c.getD k 0)
      have hst : Ex.at' (Ex.s0 b) c (k + 1) = Ex.step (Ex.at' (Ex.s0 b) c k) (c.getD k 0) (c.drop (k + 1)) := rfl
      have HNX := hide (fun (S : Ex.St) (w2 wf : World) hm hS hb hs => RV.next (w := w) (B := B) (p := B + 1) (bl := bl) (bt := bt) (mb := w.heap.size) (n := n) (b := b) (c := c) (k := k) (S := S) (wr := w2) (wf := wf) hm hS hb hs)
      rw [hst] at HNX
      have HRM := hide hv.out.rm
      have HSA := hide hsa
      have hlts := HRM.out.lt
      have hnes := HRM.out.ne
      have hmt : Iso.st (c.getD k 0) = true → (Iso.MT c).getD k 0 = (Iso.partner c k : Int) := fun hs => by rw [Iso.MT_at c k hkl]; unfold Iso.mt; rw [if_pos hs]
      generalize Ex.at' (Ex.s0 b) c k = S at *
      generalize Ex.PL (Ex.lev b (Ex.s0 b) c) n k = PLk at *
      generalize Ex.PL (Ex.typ (Ex.s0 b) c) n k = PTk at *
      generalize hxx : c.getD k 0 = x at *
      have HRW := hide (fun (w' : World) (hb : Below w.heap.size w w') => H.out.below hb)
      have HXX := hide hxx
      clear hst hv hc hkl hsa hxx
      by_cases h17 : x = 17
      · subst h17
        have HMID := hide (show Ex.mid S 17 = Ex.emb S 17 from rfl)
        have HSTEP := hide (show Ex.step S 17 (c.drop (k + 1)) = Ex.emb S 17 from rfl)
        rw [HMID.out] at hokm
        have H1 := hide (embed_any HSA.out hok hb0 hb1' (by omega) 17)
        generalize hM : Ex.emb S 17 = M at *
        go_wp2_with fail
        refine H1.out.mono ?_
        rintro e w1 ⟨rfl, ⟨g1, cap1, hs1⟩, hb1⟩
        have hm1 := HRM.out.keep hb1
        clear H1 hb1 HRM HSA
        have HT := hide (tell_any hs1 hokm.ch 17)
        have HM1 := hide hm1
        have HS1 := hide hs1
        clear hs1 hm1
        go_wp2_with fail
        refine HT.out.mono ?_
        rintro e w2 ⟨rfl, hb2⟩
        have hb2B : Below B w1 w2 := hb2.mono HS1.out.size
        have hm2 := HM1.out.keep hb2B
        have hs2 := HS1.out.below hb2
        obtain ⟨cl, fl⟩ := hm2.cl hlt
        obtain ⟨ct, ft⟩ := hm2.ct hlt
        have HM3 := hide (hm2.set k (Ex.tl b M 17) (Ex.ty M 17))
        have HS3 := hide ((hs2.setLow (a := ⟨bl, k, none⟩) hlts.1 (.int .i64 (Ex.tl b M 17))).setLow (a := ⟨bt, k, none⟩) hlts.2.1 (.int .i64 (Ex.ty M 17)))
        obtain ⟨W3, hW3⟩ : ∃ W3, (w2.setCell ⟨bl, k, none⟩ (.int .i64 (Ex.tl b M 17))).setCell ⟨bt, k, none⟩ (.int .i64 (Ex.ty M 17)) = W3 := ⟨_, rfl⟩
        rw [hW3] at HM3 HS3
        have HNM := hide (HNX.out M)
        clear HNX
        generalize Ex.tl b M 17 = tlv at *
        generalize Ex.ty M 17 = tyv at *
        have HF := hide (HNM.out W3 W3 HM3.out HMID.out (Below.refl _ _) ⟨g1, cap1, by rw [HSTEP.out]; exact HS3.out⟩)
        clear hm2 hs2 hb2 hb2B HM1 HS1 HT HM3 HS3 HNM
        go_wp2
        go_roundw
        case rel => exact ⟨k + 1, by omega, by go_num, HF⟩
        case measure => simp [intOf]; omega
      by_cases h15 : x = 15
      · subst h15
        have HMID := hide (show Ex.mid S 15 = Ex.emb S 15 from rfl)
        have HSTEP := hide (show Ex.step S 15 (c.drop (k + 1)) = Ex.emb S 15 from rfl)
        rw [HMID.out] at hokm
        have H1 := hide (embed_any HSA.out hok hb0 hb1' (by omega) 15)
        generalize hM : Ex.emb S 15 = M at *
        go_wp2_with fail
        refine H1.out.mono ?_
        rintro e w1 ⟨rfl, ⟨g1, cap1, hs1⟩, hb1⟩
        have hm1 := HRM.out.keep hb1
        clear H1 hb1 HRM HSA
        have HT := hide (tell_any hs1 hokm.ch 15)
        have HM1 := hide hm1
        have HS1 := hide hs1
        clear hs1 hm1
        go_wp2_with fail
        refine HT.out.mono ?_
        rintro e w2 ⟨rfl, hb2⟩
        have hb2B : Below B w1 w2 := hb2.mono HS1.out.size
        have hm2 := HM1.out.keep hb2B
        have hs2 := HS1.out.below hb2
        obtain ⟨cl, fl⟩ := hm2.cl hlt
        obtain ⟨ct, ft⟩ := hm2.ct hlt
        have HM3 := hide (hm2.set k (Ex.tl b M 15) (Ex.ty M 15))
        have HS3 := hide ((hs2.setLow (a := ⟨bl, k, none⟩) hlts.1 (.int .i64 (Ex.tl b M 15))).setLow (a := ⟨bt, k, none⟩) hlts.2.1 (.int .i64 (Ex.ty M 15)))
        obtain ⟨W3, hW3⟩ : ∃ W3, (w2.setCell ⟨bl, k, none⟩ (.int .i64 (Ex.tl b M 15))).setCell ⟨bt, k, none⟩ (.int .i64 (Ex.ty M 15)) = W3 := ⟨_, rfl⟩
        rw [hW3] at HM3 HS3
        have HNM := hide (HNX.out M)
        clear HNX
        generalize Ex.tl b M 15 = tlv at *
        generalize Ex.ty M 15 = tyv at *
        have HF := hide (HNM.out W3 W3 HM3.out HMID.out (Below.refl _ _) ⟨g1, cap1, by rw [HSTEP.out]; exact HS3.out⟩)
        clear hm2 hs2 hb2 hb2B HM1 HS1 HT HM3 HS3 HNM
        go_wp2
        go_roundw
        case rel => exact ⟨k + 1, by omega, by go_num, HF⟩
        case measure => simp [intOf]; omega
      by_cases h18 : x = 18
      · subst h18
        have HMID := hide (show Ex.mid S 18 = Ex.emb S 18 from rfl)
        have HSTEP := hide (show Ex.step S 18 (c.drop (k + 1)) = Ex.emb S 18 from rfl)
        rw [HMID.out] at hokm
        have H1 := hide (embed_any HSA.out hok hb0 hb1' (by omega) 18)
        generalize hM : Ex.emb S 18 = M at *
        go_wp2_with fail
        refine H1.out.mono ?_
        rintro e w1 ⟨rfl, ⟨g1, cap1, hs1⟩, hb1⟩
        have hm1 := HRM.out.keep hb1
        clear H1 hb1 HRM HSA
        have HT := hide (tell_any hs1 hokm.ch 18)
        have HM1 := hide hm1
        have HS1 := hide hs1
        clear hs1 hm1
        go_wp2_with fail
        refine HT.out.mono ?_
        rintro e w2 ⟨rfl, hb2⟩
        have hb2B : Below B w1 w2 := hb2.mono HS1.out.size
        have hm2 := HM1.out.keep hb2B
        have hs2 := HS1.out.below hb2
        obtain ⟨cl, fl⟩ := hm2.cl hlt
        obtain ⟨ct, ft⟩ := hm2.ct hlt
        have HM3 := hide (hm2.set k (Ex.tl b M 18) (Ex.ty M 18))
        have HS3 := hide ((hs2.setLow (a := ⟨bl, k, none⟩) hlts.1 (.int .i64 (Ex.tl b M 18))).setLow (a := ⟨bt, k, none⟩) hlts.2.1 (.int .i64 (Ex.ty M 18)))
        obtain ⟨W3, hW3⟩ : ∃ W3, (w2.setCell ⟨bl, k, none⟩ (.int .i64 (Ex.tl b M 18))).setCell ⟨bt, k, none⟩ (.int .i64 (Ex.ty M 18)) = W3 := ⟨_, rfl⟩
        rw [hW3] at HM3 HS3
        have HNM := hide (HNX.out M)
        clear HNX
        generalize Ex.tl b M 18 = tlv at *
        generalize Ex.ty M 18 = tyv at *
        have HF := hide (HNM.out W3 W3 HM3.out HMID.out (Below.refl _ _) ⟨g1, cap1, by rw [HSTEP.out]; exact HS3.out⟩)
        clear hm2 hs2 hb2 hb2B HM1 HS1 HT HM3 HS3 HNM
        go_wp2
        go_roundw
        case rel => exact ⟨k + 1, by omega, by go_num, HF⟩
        case measure => simp [intOf]; omega
      by_cases h16 : x = 16
      · subst h16
        have HMID := hide (show Ex.mid S 16 = Ex.emb S 16 from rfl)
        have HSTEP := hide (show Ex.step S 16 (c.drop (k + 1)) = Ex.emb S 16 from rfl)
        rw [HMID.out] at hokm
        have H1 := hide (embed_any HSA.out hok hb0 hb1' (by omega) 16)
        generalize hM : Ex.emb S 16 = M at *
        go_wp2_with fail
        refine H1.out.mono ?_
        rintro e w1 ⟨rfl, ⟨g1, cap1, hs1⟩, hb1⟩
        have hm1 := HRM.out.keep hb1
        clear H1 hb1 HRM HSA
        have HT := hide (tell_any hs1 hokm.ch 16)
        have HM1 := hide hm1
        have HS1 := hide hs1
        clear hs1 hm1
        go_wp2_with fail
        refine HT.out.mono ?_
        rintro e w2 ⟨rfl, hb2⟩
        have hb2B : Below B w1 w2 := hb2.mono HS1.out.size
        have hm2 := HM1.out.keep hb2B
        have hs2 := HS1.out.below hb2
        obtain ⟨cl, fl⟩ := hm2.cl hlt
        obtain ⟨ct, ft⟩ := hm2.ct hlt
        have HM3 := hide (hm2.set k (Ex.tl b M 16) (Ex.ty M 16))
        have HS3 := hide ((hs2.setLow (a := ⟨bl, k, none⟩) hlts.1 (.int .i64 (Ex.tl b M 16))).setLow (a := ⟨bt, k, none⟩) hlts.2.1 (.int .i64 (Ex.ty M 16)))
        obtain ⟨W3, hW3⟩ : ∃ W3, (w2.setCell ⟨bl, k, none⟩ (.int .i64 (Ex.tl b M 16))).setCell ⟨bt, k, none⟩ (.int .i64 (Ex.ty M 16)) = W3 := ⟨_, rfl⟩
        rw [hW3] at HM3 HS3
        have HNM := hide (HNX.out M)
        clear HNX
        generalize Ex.tl b M 16 = tlv at *
        generalize Ex.ty M 16 = tyv at *
        have HF := hide (HNM.out W3 W3 HM3.out HMID.out (Below.refl _ _) ⟨g1, cap1, by rw [HSTEP.out]; exact HS3.out⟩)
        clear hm2 hs2 hb2 hb2B HM1 HS1 HT HM3 HS3 HNM
        go_wp2
        go_roundw
        case rel => exact ⟨k + 1, by omega, by go_num, HF⟩
        case measure => simp [intOf]; omega
      by_cases h19 : x = 19
      · subst h19
        have HMID := hide (show Ex.mid S 19 = Ex.pdf S from rfl)
        have HSTEP := hide (show Ex.step S 19 (c.drop (k + 1)) = Ex.pdf S from rfl)
        rw [HMID.out] at hokm
        have H1 := hide (endEmbedding_any HSA.out hok hb0 hb1' (by omega))
        generalize hM : Ex.pdf S = M at *
        go_wp2_with fail
        refine H1.out.mono ?_
        rintro e w1 ⟨rfl, ⟨g1, cap1, hs1⟩, hb1⟩
        have hm1 := HRM.out.keep hb1
        clear H1 hb1 HRM HSA
        have HT := hide (tell_any hs1 hokm.ch 19)
        have HM1 := hide hm1
        have HS1 := hide hs1
        clear hs1 hm1
        go_wp2_with fail
        refine HT.out.mono ?_
        rintro e w2 ⟨rfl, hb2⟩
        have hb2B : Below B w1 w2 := hb2.mono HS1.out.size
        have hm2 := HM1.out.keep hb2B
        have hs2 := HS1.out.below hb2
        obtain ⟨cl, fl⟩ := hm2.cl hlt
        obtain ⟨ct, ft⟩ := hm2.ct hlt
        have HM3 := hide (hm2.set k (Ex.tl b M 19) (Ex.ty M 19))
        have HS3 := hide ((hs2.setLow (a := ⟨bl, k, none⟩) hlts.1 (.int .i64 (Ex.tl b M 19))).setLow (a := ⟨bt, k, none⟩) hlts.2.1 (.int .i64 (Ex.ty M 19)))
        obtain ⟨W3, hW3⟩ : ∃ W3, (w2.setCell ⟨bl, k, none⟩ (.int .i64 (Ex.tl b M 19))).setCell ⟨bt, k, none⟩ (.int .i64 (Ex.ty M 19)) = W3 := ⟨_, rfl⟩
        rw [hW3] at HM3 HS3
        have HNM := hide (HNX.out M)
        clear HNX
        generalize Ex.tl b M 19 = tlv at *
        generalize Ex.ty M 19 = tyv at *
        have HF := hide (HNM.out W3 W3 HM3.out HMID.out (Below.refl _ _) ⟨g1, cap1, by rw [HSTEP.out]; exact HS3.out⟩)
        clear hm2 hs2 hb2 hb2B HM1 HS1 HT HM3 HS3 HNM
        go_wp2
        go_roundw
        case rel => exact ⟨k + 1, by omega, by go_num, HF⟩
        case measure => simp [intOf]; omega
      by_cases h23 : x = 23
      · subst h23
        have HMID := hide (show Ex.mid S 23 = Ex.pdi S from rfl)
        have HSTEP := hide (show Ex.step S 23 (c.drop (k + 1)) = Ex.pdi S from rfl)
        rw [HMID.out] at hokm
        have H1 := hide (endIsolate_any HSA.out hok hb0 hb1' (by omega))
        generalize hM : Ex.pdi S = M at *
        go_wp2_with fail
        refine H1.out.mono ?_
        rintro e w1 ⟨rfl, ⟨g1, cap1, hs1⟩, hb1⟩
        have hm1 := HRM.out.keep hb1
        clear H1 hb1 HRM HSA
        have HT := hide (tell_any hs1 hokm.ch 23)
        have HM1 := hide hm1
        have HS1 := hide hs1
        clear hs1 hm1
        go_wp2_with fail
        refine HT.out.mono ?_
        rintro e w2 ⟨rfl, hb2⟩
        have hb2B : Below B w1 w2 := hb2.mono HS1.out.size
        have hm2 := HM1.out.keep hb2B
        have hs2 := HS1.out.below hb2
        obtain ⟨cl, fl⟩ := hm2.cl hlt
        obtain ⟨ct, ft⟩ := hm2.ct hlt
        have HM3 := hide (hm2.set k (Ex.tl b M 23) (Ex.ty M 23))
        have HS3 := hide ((hs2.setLow (a := ⟨bl, k, none⟩) hlts.1 (.int .i64 (Ex.tl b M 23))).setLow (a := ⟨bt, k, none⟩) hlts.2.1 (.int .i64 (Ex.ty M 23)))
        obtain ⟨W3, hW3⟩ : ∃ W3, (w2.setCell ⟨bl, k, none⟩ (.int .i64 (Ex.tl b M 23))).setCell ⟨bt, k, none⟩ (.int .i64 (Ex.ty M 23)) = W3 := ⟨_, rfl⟩
        rw [hW3] at HM3 HS3
        have HNM := hide (HNX.out M)
        clear HNX
        generalize Ex.tl b M 23 = tlv at *
        generalize Ex.ty M 23 = tyv at *
        have HF := hide (HNM.out W3 W3 HM3.out HMID.out (Below.refl _ _) ⟨g1, cap1, by rw [HSTEP.out]; exact HS3.out⟩)
        clear hm2 hs2 hb2 hb2B HM1 HS1 HT HM3 HS3 HNM
        go_wp2
        go_roundw
        case rel => exact ⟨k + 1, by omega, by go_num, HF⟩
        case measure => simp [intOf]; omega
      by_cases h21 : x = 21
      · subst h21
        have HMID := hide (show Ex.mid S 21 = S from rfl)
        have HSTEP := hide (show Ex.step S 21 (c.drop (k + 1)) = Ex.iso S (Ex.odd 21) from rfl)
        rw [HMID.out] at hokm
        obtain ⟨w1, hw1⟩ : ∃ w1, wr = w1 := ⟨_, rfl⟩
        have hs1 := HSA.out
        have hm1 := HRM.out
        subst hw1
        have HT := hide (tell_any hs1 hokm.ch 21)
        have HM1 := hide hm1
        have HS1 := hide hs1
        clear hs1 hm1
        go_wp2_with fail
        refine HT.out.mono ?_
        rintro e w2 ⟨rfl, hb2⟩
        have hb2B : Below B wr w2 := hb2.mono HS1.out.size
        have hm2 := HM1.out.keep hb2B
        have hs2 := HS1.out.below hb2
        obtain ⟨cl, fl⟩ := hm2.cl hlt
        obtain ⟨ct, ft⟩ := hm2.ct hlt
        have HM3 := hide (hm2.set k (Ex.tl b S 21) (Ex.ty S 21))
        have HS3 := hide ((hs2.setLow (a := ⟨bl, k, none⟩) hlts.1 (.int .i64 (Ex.tl b S 21))).setLow (a := ⟨bt, k, none⟩) hlts.2.1 (.int .i64 (Ex.ty S 21)))
        obtain ⟨W3, hW3⟩ : ∃ W3, (w2.setCell ⟨bl, k, none⟩ (.int .i64 (Ex.tl b S 21))).setCell ⟨bt, k, none⟩ (.int .i64 (Ex.ty S 21)) = W3 := ⟨_, rfl⟩
        rw [hW3] at HM3 HS3
        have HNM := hide (HNX.out S)
        clear HNX
        generalize Ex.tl b S 21 = tlv at *
        generalize Ex.ty S 21 = tyv at *
        have HI := hide (isolate_any HS3.out (hokm) hb0 hb1' (by omega) 21)
        clear hm2 hs2 hb2 hb2B HM1 HS1 HT
        go_wp2_with fail
        refine HI.out.mono ?_
        rintro e w4 ⟨rfl, ⟨g4, cap4, hs4⟩, hb4⟩
        have HF := hide (HNM.out W3 w4 HM3.out HMID.out hb4 ⟨g4, cap4, by rw [HSTEP.out]; exact hs4⟩)
        clear hs4 hb4 HM3 HS3 HNM HI cl ct fl ft hW3
        go_wp2
        go_roundw
        case rel => exact ⟨k + 1, by omega, by go_num, HF⟩
        case measure => simp [intOf]; omega
      by_cases h20 : x = 20
      · subst h20
        have HMID := hide (show Ex.mid S 20 = S from rfl)
        have HSTEP := hide (show Ex.step S 20 (c.drop (k + 1)) = Ex.iso S (Ex.odd 20) from rfl)
        rw [HMID.out] at hokm
        obtain ⟨w1, hw1⟩ : ∃ w1, wr = w1 := ⟨_, rfl⟩
        have hs1 := HSA.out
        have hm1 := HRM.out
        subst hw1
        have HT := hide (tell_any hs1 hokm.ch 20)
        have HM1 := hide hm1
        have HS1 := hide hs1
        clear hs1 hm1
        go_wp2_with fail
        refine HT.out.mono ?_
        rintro e w2 ⟨rfl, hb2⟩
        have hb2B : Below B wr w2 := hb2.mono HS1.out.size
        have hm2 := HM1.out.keep hb2B
        have hs2 := HS1.out.below hb2
        obtain ⟨cl, fl⟩ := hm2.cl hlt
        obtain ⟨ct, ft⟩ := hm2.ct hlt
        have HM3 := hide (hm2.set k (Ex.tl b S 20) (Ex.ty S 20))
        have HS3 := hide ((hs2.setLow (a := ⟨bl, k, none⟩) hlts.1 (.int .i64 (Ex.tl b S 20))).setLow (a := ⟨bt, k, none⟩) hlts.2.1 (.int .i64 (Ex.ty S 20)))
        obtain ⟨W3, hW3⟩ : ∃ W3, (w2.setCell ⟨bl, k, none⟩ (.int .i64 (Ex.tl b S 20))).setCell ⟨bt, k, none⟩ (.int .i64 (Ex.ty S 20)) = W3 := ⟨_, rfl⟩
        rw [hW3] at HM3 HS3
        have HNM := hide (HNX.out S)
        clear HNX
        generalize Ex.tl b S 20 = tlv at *
        generalize Ex.ty S 20 = tyv at *
        have HI := hide (isolate_any HS3.out (hokm) hb0 hb1' (by omega) 20)
        clear hm2 hs2 hb2 hb2B HM1 HS1 HT
        go_wp2_with fail
        refine HI.out.mono ?_
        rintro e w4 ⟨rfl, ⟨g4, cap4, hs4⟩, hb4⟩
        have HF := hide (HNM.out W3 w4 HM3.out HMID.out hb4 ⟨g4, cap4, by rw [HSTEP.out]; exact hs4⟩)
        clear hs4 hb4 HM3 HS3 HNM HI cl ct fl ft hW3
        go_wp2
        go_roundw
        case rel => exact ⟨k + 1, by omega, by go_num, HF⟩
        case measure => simp [intOf]; omega
      by_cases h22 : x = 22
      · subst h22
        have HMID := hide (show Ex.mid S 22 = S from rfl)
        have HSTEP := hide (show Ex.step S 22 (c.drop (k + 1)) = Ex.iso S (Ex.fs 0 (c.drop (k + 1)) == 1) from rfl)
        rw [HMID.out] at hokm
        obtain ⟨w1, hw1⟩ : ∃ w1, wr = w1 := ⟨_, rfl⟩
        have hs1 := HSA.out
        have hm1 := HRM.out
        subst hw1
        have HT := hide (tell_any hs1 hokm.ch 22)
        have HM1 := hide hm1
        have HS1 := hide hs1
        clear hs1 hm1
        go_wp2_with fail
        refine HT.out.mono ?_
        rintro e w2 ⟨rfl, hb2⟩
        have hb2B : Below B wr w2 := hb2.mono HS1.out.size
        have hm2 := HM1.out.keep hb2B
        have hs2 := HS1.out.below hb2
        obtain ⟨cl, fl⟩ := hm2.cl hlt
        obtain ⟨ct, ft⟩ := hm2.ct hlt
        have HM3 := hide (hm2.set k (Ex.tl b S 22) (Ex.ty S 22))
        have HS3 := hide ((hs2.setLow (a := ⟨bl, k, none⟩) hlts.1 (.int .i64 (Ex.tl b S 22))).setLow (a := ⟨bt, k, none⟩) hlts.2.1 (.int .i64 (Ex.ty S 22)))
        obtain ⟨W3, hW3⟩ : ∃ W3, (w2.setCell ⟨bl, k, none⟩ (.int .i64 (Ex.tl b S 22))).setCell ⟨bt, k, none⟩ (.int .i64 (Ex.ty S 22)) = W3 := ⟨_, rfl⟩
        rw [hW3] at HM3 HS3
        have HNM := hide (HNX.out S)
        clear HNX
        generalize Ex.tl b S 22 = tlv at *
        generalize Ex.ty S 22 = tyv at *
        have HTA := hide (takenAs_any HS3.out hokm.ch.pos _ n cap0 c (HRW.out _ HM3.out.bel) HN.out k hlt)
        have cm := HM3.out.cm hlt
        rw [hmt rfl] at cm
        generalize Iso.partner c k = q at *
        have e1 : ((k + 1 : Nat) : Int) = (k : Int) + 1 := by omega
        rw [e1] at HTA
        clear hm2 hs2 hb2 hb2B HM1 HS1 HT
        go_wp2_with fail
        refine HTA.out.mono ?_
        rintro e w4 ⟨⟨y, rfl, hy⟩, hb4⟩
        have hs4 := HS3.out.below hb4
        have HI := hide (isolate_any hs4 hokm hb0 hb1' (by omega) y)
        have hb4B : Below B W3 w4 := hb4.mono HS3.out.size
        have HY := hide hy
        clear hs4 hb4 hy
        go_wp2_with fail
        refine HI.out.mono ?_
        rintro e w5 ⟨rfl, ⟨g5, cap5, hs5⟩, hb5⟩
        have HF := hide (HNM.out W3 w5 HM3.out HMID.out (hb4B.trans hb5) ⟨g5, cap5, by rw [HSTEP.out, ← HY.out]; exact hs5⟩)
        clear hs5 hb5 hb4B HM3 HS3 HNM HI cl ct fl ft cm hW3
        go_wp2
        go_roundw
        case rel => exact ⟨k + 1, by omega, by go_num, HF⟩
        case measure => simp [intOf]; omega
      have hoth : ¬ x = 17 ∧ ¬ x = 15 ∧ ¬ x = 18 ∧ ¬ x = 16 ∧ ¬ x = 19 ∧ ¬ x = 23 := ⟨h17, h15, h18, h16, h19, h23⟩
      have HMID := hide (show Ex.mid S x = S from mid_other hoth)
      have HSTEP := hide (show Ex.step S x (c.drop (k + 1)) = S from step_other hoth ⟨h20, h21, h22⟩)
      rw [HMID.out] at hokm
      have hs1 := HSA.out
      have hm1 := HRM.out
      have q17 : (x == 17) = false := beq_false_of_ne h17
      have q15 : (x == 15) = false := beq_false_of_ne h15
      have q18 : (x == 18) = false := beq_false_of_ne h18
      have q16 : (x == 16) = false := beq_false_of_ne h16
      have q19 : (x == 19) = false := beq_false_of_ne h19
      have q23 : (x == 23) = false := beq_false_of_ne h23
      have q21 : (x == 21) = false := beq_false_of_ne h21
      have q20 : (x == 20) = false := beq_false_of_ne h20
      have q22 : (x == 22) = false := beq_false_of_ne h22
      clear hoth h17 h15 h18 h16 h19 h23 h21 h20 h22
      have HT := hide (tell_any hs1 hokm.ch x)
      have HM1 := hide hm1
      have HS1 := hide hs1
      clear hs1 hm1
      go_wp2_with fail
      refine HT.out.mono ?_
      rintro e w2 ⟨rfl, hb2⟩
      have hb2B : Below B wr w2 := hb2.mono HS1.out.size
      have hm2 := HM1.out.keep hb2B
      have hs2 := HS1.out.below hb2
      obtain ⟨cl, fl⟩ := hm2.cl hlt
      obtain ⟨ct, ft⟩ := hm2.ct hlt
      have HM3 := hide (hm2.set k (Ex.tl b S x) (Ex.ty S x))
      have HS3 := hide ((hs2.setLow (a := ⟨bl, k, none⟩) hlts.1 (.int .i64 (Ex.tl b S x))).setLow (a := ⟨bt, k, none⟩) hlts.2.1 (.int .i64 (Ex.ty S x)))
      obtain ⟨W3, hW3⟩ : ∃ W3, (w2.setCell ⟨bl, k, none⟩ (.int .i64 (Ex.tl b S x))).setCell ⟨bt, k, none⟩ (.int .i64 (Ex.ty S x)) = W3 := ⟨_, rfl⟩
      rw [hW3] at HM3 HS3
      have HNM := hide (HNX.out S)
      clear HNX
      generalize Ex.tl b S x = tlv at *
      generalize Ex.ty S x = tyv at *
      have HF := hide (HNM.out W3 W3 HM3.out HMID.out (Below.refl _ _) ⟨g, cap, by rw [HSTEP.out]; exact HS3.out⟩)
      clear hm2 hs2 hb2 hb2B HM1 HS1 HT HM3 HS3 HNM
      go_wp2
      go_roundw
      case rel => exact ⟨k + 1, by omega, by go_num, HF⟩
      case measure => simp [intOf]; omega
    · obtain rfl : k = n := by omega
      have hne : ¬ ((k : Int) < (k : Int)) := by omega
      have hl := hv.out.rm.ol
      have ht := hv.out.rm.ot
      rw [Ex.PL_end, ← HL.out] at hl ht
      have HRL := hide (show wr.ownsRow w.heap.size 3 1 (.slice (some ⟨bl, 0, none⟩) k k) k ((Ex.LV b c).map (Value.int .i64)) from by have := hl; rw [HL.out] at this; unfold Ex.LV; rw [HL.out]; exact this)
      have HRT := hide (show wr.ownsRow w.heap.size 3 1 (.slice (some ⟨bt, 0, none⟩) k k) k ((Ex.TY b c).map (Value.int .i64)) from by have := ht; rw [HL.out] at this; unfold Ex.TY; rw [HL.out]; exact this)
      have HB := hide hv.out.rm.bel
      have HNE := hide hv.out.rm.ne.1
      clear hv hl ht
      go_wp2
      go_ret3
      exact ⟨bl, bt, rfl, HRL.out, HRT.out, HNE.out, HB.out⟩
theorem resolve_ok (ao : Option Addr) (n cap0 : Nat) (c : List Int) (b : Int) (w : World) (h : Row .i64 w ao n cap0 c) (hn : n * 8 ≤ 140737488351232) (hb : b = 0 ∨ b = 1) (hF : Ex.Formed c) :
    Calls Tryz.prog 38 #[.slice ao n cap0, .int .i64 b] w fun e w' => ∃ bl bt, e = .returned (.tuple #[.slice (some ⟨bl, 0, none⟩) n n, .slice (some ⟨bt, 0, none⟩) n n, .int .i64 0]) ∧ Row .i64 w' (some ⟨bl, 0, none⟩) n n (Ex.LV b c) ∧ Row .i64 w' (some ⟨bt, 0, none⟩) n n (Ex.TY b c) ∧ Below w.heap.size w w' := by
  refine (resolve_own ao n cap0 c b w h hn hb hF).mono ?_
  rintro e w' ⟨bl, bt, he, h1, h2, _, h3⟩
  exact ⟨bl, bt, he, row_owned h1, row_owned h2, h3⟩
end Go.Proofs.YtmdmehopefgndaaGreatDoor

/- Lists of sequences in memory; Sequences. -/
namespace Go.Proofs.YtmdmehopefgndaaGreatDoor
open Go.RowKit Go.Maps
set_option linter.unusedVariables false
set_option maxHeartbeats 1000000
set_option maxRecDepth 100000
namespace Rn
structure Sq where
  places : List Nat
  lvl : Int
  sos : Int
  eos : Int
instance : Inhabited Sq := ⟨⟨[], 0, 0, 0⟩⟩
/-- The sequence that begins with a run. -/
def sq (b : Int) (lv mt : List Int) (rs : List (List Nat)) (k : Nat) : Sq :=
  ⟨plc rs (chn (fo mt rs) (rs.length - k) k), lvl lv rs k, sd (lvl lv rs k) (ah b lv rs k), sd (lvl lv rs k) (bh b lv mt rs (ltc (fo mt rs) (rs.length - k) k))⟩
/-- Those that begin among the first k runs. -/
def sqs (b : Int) (lv mt : List Int) (rs : List (List Nat)) (k : Nat) : List Sq := ((List.range k).filter (bg mt rs)).map (sq b lv mt rs)
theorem sqs_yes {b : Int} {lv mt : List Int} {rs : List (List Nat)} {k : Nat} (h : bg mt rs k = true) : sqs b lv mt rs (k + 1) = sqs b lv mt rs k ++ [sq b lv mt rs k] := by
  unfold sqs
  rw [List.range_succ, List.filter_append, List.map_append]
  simp [h]
theorem sqs_no {b : Int} {lv mt : List Int} {rs : List (List Nat)} {k : Nat} (h : bg mt rs k = false) : sqs b lv mt rs (k + 1) = sqs b lv mt rs k := by
  unfold sqs
  rw [List.range_succ, List.filter_append, List.map_append]
  simp [h]
theorem sqs_len (b : Int) (lv mt : List Int) (rs : List (List Nat)) (k : Nat) : (sqs b lv mt rs k).length ≤ k := by
  unfold sqs
  rw [List.length_map]
  exact Nat.le_trans (List.length_filter_le _ _) (by simp)
end Rn
/-- A sequence's cells. -/
def sc (h : Nat × Nat) (s : Rn.Sq) : List Value := [.slice (some ⟨h.1, 0, none⟩) s.places.length h.2, .int .i64 s.lvl, .int .i64 s.sos, .int .i64 s.eos]
def scs (hs : List (Nat × Nat)) (ss : List Rn.Sq) : List Value := (List.zipWith sc hs ss).flatten
theorem scs_snoc {hs : List (Nat × Nat)} {ss : List Rn.Sq} (h : hs.length = ss.length) (a : Nat × Nat) (s : Rn.Sq) : scs (hs ++ [a]) (ss ++ [s]) = scs hs ss ++ sc a s := by
  unfold scs
  rw [List.zipWith_append h]
  simp
theorem scs_at : ∀ (hs : List (Nat × Nat)) (ss : List Rn.Sq) (j i : Nat), hs.length = ss.length → j < ss.length → i < 4 → (scs hs ss)[j * 4 + i]? = (sc (hs.getD j (0, 0)) (ss.getD j default))[i]? := by
  intro hs
  induction hs with
  | nil => intro ss j i h hj; simp at h; rw [← h] at hj; omega
  | cons a t ih =>
    intro ss j i h hj hi
    cases ss with
    | nil => simp at hj
    | cons s r =>
      have e : scs (a :: t) (s :: r) = sc a s ++ scs t r := by simp [scs]
      rw [e]
      cases j with
      | zero => rw [List.getElem?_append_left (by simp [sc]; omega)]; simp [List.getD]
      | succ j =>
        rw [List.getElem?_append_right (by simp [sc]; omega)]
        have := ih r j i (by simpa using h) (by simpa using hj) hi
        rw [show (j + 1) * 4 + i - (sc a s).length = j * 4 + i from by simp [sc]; omega, this]
        simp [List.getD]
theorem own_types4 {w : World} {B B' e e' z z' n m : Nat} {v u : Value} {xs ys : List Value} (h : w.ownsRow B e z v n xs) (h' : w.ownsRow B' e' z' u m ys) (hne : ¬ e = e') (g : Nat) (h1 : v.ownBlock = some g) : ¬ u.ownBlock = some g := by
  intro h2
  rcases h.2 with ⟨rfl, _⟩ | ⟨a, cap, cur, rfl, _, ha, _⟩
  · simp [Value.ownBlock] at h1
  · rcases h'.2 with ⟨rfl, _⟩ | ⟨a', cap', cur', rfl, _, ha', _⟩
    · simp [Value.ownBlock] at h2
    · simp [Value.ownBlock] at h1 h2
      subst h1 h2
      rw [ha] at ha'
      simp at ha'
      exact hne ha'.2
structure SO (B : Nat) (w : World) (v : Value) (hs : List (Nat × Nat)) (ss : List Rn.Sq) : Prop where
  oa : w.ownsRow B 87 4 v ss.length (scs hs ss)
  lh : hs.length = ss.length
  rows : ∀ j, j < ss.length → w.ownsRow B 3 1 (.slice (some ⟨(hs.getD j (0, 0)).1, 0, none⟩) (ss.getD j default).places.length (hs.getD j (0, 0)).2) (ss.getD j default).places.length ((Rn.zs (ss.getD j default).places).map (Value.int .i64))
section
variable {B : Nat} {w : World} {v : Value} {hs : List (Nat × Nat)} {ss : List Rn.Sq}
theorem SO.begin (B : Nat) (w : World) : SO B w (.slice none 0 0) [] [] := ⟨World.ownsRow_nil _ _ _ _, rfl, fun j hj => by simp at hj⟩
theorem SO.below (h : SO B w v hs ss) {w' : World} (hb : Below w.heap.size w w') : SO B w' v hs ss := ⟨owns_below h.oa hb, h.lh, fun j hj => owns_below (h.rows j hj) hb⟩
theorem SO.mono {B' : Nat} (h : SO B w v hs ss) (hB : B' ≤ B) : SO B' w v hs ss := ⟨owns_mono h.oa hB, h.lh, fun j hj => owns_mono (h.rows j hj) hB⟩
theorem SO.push (h : SO B w v hs ss) {w' : World} {v' : Value} {g cp : Nat} {s : Rn.Sq} (hr : w.ownsRow B 3 1 (.slice (some ⟨g, 0, none⟩) s.places.length cp) s.places.length ((Rn.zs s.places).map (Value.int .i64)))
    (ho : w'.ownsRow B 87 4 v' (ss.length + 1) (scs hs ss ++ sc (g, cp) s)) (hg : w.grownBy w' v.ownBlock) : SO B w' v' (hs ++ [(g, cp)]) (ss ++ [s]) := by
  have key : ∀ {u : Value} {m : Nat} {ys : List Value}, w.ownsRow B 3 1 u m ys → w'.ownsRow B 3 1 u m ys := by
    intro u m ys hu
    refine hu.kept hg ?_
    cases hx : u.ownBlock with
    | none => exact .inl rfl
    | some q => exact .inr (fun h1 => own_types4 h.oa hu (by decide) q h1.symm hx)
  refine ⟨by rw [scs_snoc h.lh, List.length_append]; exact ho, by simp [h.lh], fun j hj => ?_⟩
  by_cases hj2 : j < ss.length
  · have e1 : (hs ++ [(g, cp)]).getD j (0, 0) = hs.getD j (0, 0) := by simp [List.getD, List.getElem?_append_left (show j < hs.length by rw [h.lh]; exact hj2)]
    have e2 : (ss ++ [s]).getD j default = ss.getD j default := by simp [List.getD, List.getElem?_append_left hj2]
    rw [e1, e2]
    exact key (h.rows j hj2)
  · obtain rfl : j = ss.length := by simp at hj; omega
    have e1 : (hs ++ [(g, cp)]).getD ss.length (0, 0) = (g, cp) := by simp [List.getD, ← h.lh]
    have e2 : (ss ++ [s]).getD ss.length default = s := by simp [List.getD]
    rw [e1, e2]
    exact key hr
end
/-- A list of sequences as it is read. -/
structure SL (w : World) (ao : Option Addr) (n cap : Nat) (ss : List Rn.Sq) : Prop where
  len : ss.length = n
  le : n ≤ cap
  at' : ∀ j, j < n → ∃ g gj cj, ao = some ⟨g, 0, none⟩ ∧ g < w.heap.size ∧ w.cell? ⟨g, j * 4, none⟩ = some (.slice (some ⟨gj, 0, none⟩) (ss.getD j default).places.length cj) ∧ w.cell? ⟨g, j * 4 + 1, none⟩ = some (.int .i64 (ss.getD j default).lvl) ∧ w.cell? ⟨g, j * 4 + 2, none⟩ = some (.int .i64 (ss.getD j default).sos) ∧ w.cell? ⟨g, j * 4 + 3, none⟩ = some (.int .i64 (ss.getD j default).eos) ∧ Row .i64 w (some ⟨gj, 0, none⟩) (ss.getD j default).places.length cj (Rn.zs (ss.getD j default).places)
theorem SL.below {w : World} {ao : Option Addr} {n cap : Nat} {ss : List Rn.Sq} (h : SL w ao n cap ss) {w' : World} (hb : Below w.heap.size w w') : SL w' ao n cap ss :=
  ⟨h.len, h.le, fun j hj => by
    obtain ⟨g, gj, cj, h1, h2, h3, h4, h5, h6, h7⟩ := h.at' j hj
    exact ⟨g, gj, cj, h1, Nat.lt_of_lt_of_le h2 hb.size, (hb.cell (by exact h2)).trans h3, (hb.cell (by exact h2)).trans h4, (hb.cell (by exact h2)).trans h5, (hb.cell (by exact h2)).trans h6, h7.below hb⟩⟩
theorem SO.view {B : Nat} {w : World} {v : Value} {hs : List (Nat × Nat)} {ss : List Rn.Sq} (h : SO B w v hs ss) : ∃ ao cap, v = .slice ao ss.length cap ∧ SL w ao ss.length cap ss := by
  obtain ⟨ao, cap, rfl, hle⟩ := owns_form h.oa
  refine ⟨ao, cap, rfl, rfl, hle, fun j hj => ?_⟩
  obtain ⟨g, c2, e, _, _⟩ := owns_pos h.oa (by omega)
  simp only [Value.slice.injEq] at e
  obtain ⟨rfl, _, rfl⟩ := e
  have hlen : (scs hs ss).length = ss.length * 4 := h.oa.1
  have key : ∀ i, i < 4 → w.cell? ⟨g, j * 4 + i, none⟩ = (sc (hs.getD j (0, 0)) (ss.getD j default))[i]? := fun i hi => by
    rw [h.oa.cellAt (j * 4 + i) (by omega)]
    exact scs_at hs ss j i h.lh hj hi
  exact ⟨g, (hs.getD j (0, 0)).1, (hs.getD j (0, 0)).2, rfl, (h.oa.lt g rfl).2, key 0 (by omega), key 1 (by omega), key 2 (by omega), key 3 (by omega), row_owned (h.rows j hj)⟩
end Go.Proofs.YtmdmehopefgndaaGreatDoor
