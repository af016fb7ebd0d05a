/- PickImage: the places of a range's columns are those of the range that are seen. -/
import Derived.Test.YtmcbldllbnjipaaPm16
import Derived.Test.YtmcbldllbnjipaaWk16
namespace Go.Proofs.Ytmcbldllbnjipaa
open Go.RowKit
set_option linter.unusedVariables false
set_option maxHeartbeats 1000000
set_option maxRecDepth 100000
theorem PickImage_walk (w : World) (a0 : Option Addr) (n0 cap0 : Nat) (l : List Int) (h0 : Row .i64 w a0 n0 cap0 l) (hf0 : ∀ x ∈ l, (Lit.int .i64 x).wf = true) (hs0 : n0 * 8 ≤ 140737488351232) (f : Int) (hff : (Lit.int .i64 f).wf = true) (t : Int) (htt : (Lit.int .i64 t).wf = true) :
    Calls Try.prog 5 #[.slice a0 n0 cap0, .int .i64 f, .int .i64 t] w fun e w' => e = .returned (.bool true) ∧ Below w.heap.size w w' := by
  have HW := hide (works16_any w)
  obtain ⟨R, E, hA⟩ := PRA_some l f t
  have HR := hide (fun (W : World) (hk : KO w W) => pruns_any a0 n0 cap0 l f t W (h0.below hk) hs0 R E hA)
  by_cases hE : E = 0
  · subst hE
    have hQ := Pk.image_QA hA
    obtain ⟨hr1, hr2, hr3⟩ : 0 ≤ f ∧ t ≤ (l.length : Int) ∧ f ≤ t := by
      rcases hA with ⟨_, h, _⟩ | ⟨_, _, h⟩ | ⟨_, _, _, h⟩
      · exact h
      · cases h
      · cases h
    rw [h0.len] at hr2
    obtain ⟨fn, rfl⟩ : ∃ k : Nat, f = (k : Int) := ⟨f.toNat, by omega⟩
    obtain ⟨tn, rfl⟩ : ∃ k : Nat, t = (k : Int) := ⟨t.toNat, by omega⟩
    have HP := hide (fun (az : Option Addr) (cz : Nat) (W : World) (hk : KO w W) (hz : PI W az R.length cz (zi R)) => pplaces_any a0 az n0 R.length cap0 cz l (zi R) W (h0.below hk) hz hs0 _ _ hQ)
    have HNO : Hid (Pk.PL (Pk.im l fn tn) fn = []) := hide (Pk.PL_none fun i hi q => by have := of_decide_eq_true q; omega)
    have HAL : Hid (Pk.PL (Pk.im l fn tn) l.length = Pk.PL (Pk.im l fn tn) tn) := hide (Pk.PL_rest (by rw [h0.len]; omega) fun i hi _ q => by have := of_decide_eq_true q; omega)
    have HIN := hide (fun i (h1 : fn ≤ i) (h2 : i < tn) (h3 : 0 ≤ l.getD i 0) => Pk.PL_in (p := Pk.im l fn tn) (n := i) (decide_eq_true ⟨by omega, by omega, h3⟩))
    have HOUT := hide (fun i (h3 : ¬ 0 ≤ l.getD i 0) => Pk.PL_out (p := Pk.im l fn tn) (n := i) (fun q => h3 (of_decide_eq_true q).2.2))
    have HLE := hide (fun i => Pk.PL_len (Pk.im l fn tn) i)
    have H0 := hide h0
    have HL := hide h0.len
    rw [HAL.out] at HP
    obtain ⟨ii, hii, hy0, hy1, hy2⟩ := info_parts infoInt
    have HII : Hid (Try.prog.info? 3 = some ii) := hii
    have HY0 := hide hy0
    have HY1 := hide hy1
    have HY2 := hide hy2
    clear h0 hf0 hff htt hA hQ hii hy0 hy1 hy2 HAL
    generalize Pk.im l fn tn = p at *
    obtain ⟨N, hN⟩ : ∃ N, R.length = N := ⟨_, rfl⟩
    rw [hN] at HR HP
    have hft : fn ≤ tn := by omega
    have htn : tn ≤ n0 := by omega
    go_enter Try.func5, Try.ntmps5
    go_wp2_with fail
    refine HW.out.mono ?_
    rintro e w1 ⟨rfl, hk1⟩
    have K1 := hide hk1
    have HR1 := hide (HR.out w1 hk1)
    clear hk1 HW HR
    go_wp2_with fail
    refine HR1.out.mono ?_
    rintro e w2 ⟨a2, c2, rfl, hp2, hk2⟩
    have K2 := hide (KO.on K1.out hk2)
    have HP2 := hide (HP.out a2 c2 w2 K2.out (pi_of_pairs hp2))
    clear hp2 hk2 HR1 HP
    go_wp2_with fail
    refine HP2.out.mono ?_
    rintro e w3 ⟨a3, c3, rfl, hr3, hk3⟩
    have K3 := hide (KO.on K2.out hk3)
    have R3 := hide hr3
    clear hr3 hk3 HP2
    go_wp2
    go_loopw [11, 12] (fun s11 s12 W => ∃ (v : Value) (i : Nat), v = s11 ∧ s12 = .int .i64 (i : Int) ∧ fn ≤ i ∧ i ≤ tn ∧ Hid (RG w3 (Pk.PL p i) (Pk.PL p i).length v W)) (fun _ s12 _ => tn - (intOf s12).toNat)
    case atStart => exact ⟨_, fn, rfl, rfl, Nat.le_refl _, hft, hide (by rw [HNO.out]; exact ⟨World.ownsRow_nil _ _ _ _, Below.refl _ _⟩)⟩
    case round =>
      obtain ⟨v, i, hv, rfl, hi1, hi2, hm⟩ := hrel
      subst hv
      by_cases hlt : i < tn
      · have hin : (i : Int) < (tn : Int) := by omega
        have hm2 := hm.out
        obtain ⟨b, off, rfl, hb, hc⟩ := H0.out.cells (by omega)
        have c0 := (Below.cell (KO.on K3.out hm2.bel) (by exact hb)).trans (hc i (by rw [HL.out]; omega))
        have hii2 : (i : Int) < (n0 : Int) := by omega
        by_cases h3 : 0 ≤ l.getD i 0
        · have HS := hide (HIN.out i hi1 hlt h3)
          have hln := HLE.out i
          have HBS := hide hm2.bel.size
          have HOW := hide hm2.own
          have HBE := hide hm2.bel
          obtain ⟨a6, c6, hva, _⟩ := owns_form hm2.own
          subst hva
          clear hm hm2 hc HIN HOUT
          generalize l.getD i 0 = x at *
          generalize Pk.PL p i = Y at *
          obtain ⟨ny, hny⟩ : ∃ ny, Y.length = ny := ⟨_, rfl⟩
          rw [hny] at HOW hln ⊢
          have HNY := hide hny
          clear hny
          go_wp2_with (at_builtin; refine wpList_append_row _ rfl (.tmp 44) (.tmp 46) 22 rfl w3.heap.size 3 ii (.int .i64 0) 8 Try.underlying22 HII.out HY0.out HY1.out HY2.out rfl _ ny _ rfl (HOW.out.alloc _) .i64 _ 1 1 [(i : Int)] rfl (row_one _ wr.heap.size rfl (i : Int)) (by omega) (by omega) (by simp; have := HBS.out; omega) ?_; intro v7 w7 ho7 hb7)
          have HM7 : Hid (RG w3 (Pk.PL p (i + 1)) (Pk.PL p (i + 1)).length v7 w7) := hide (by
            have e1 : (Pk.PL p (i + 1)).length = ny + 1 := by rw [HS.out, List.length_append, HNY.out]; rfl
            rw [e1]
            exact RG.snoc HBE.out hb7 ho7 HS.out)
          clear ho7 hb7
          go_wp2
          go_roundw
          case rel => exact ⟨_, i + 1, rfl, by go_num, by omega, by omega, HM7⟩
          case measure => simp [intOf]; omega
        · have HS := hide (HOUT.out i (by omega))
          clear hc hm2
          generalize l.getD i 0 = x at *
          go_wp2
          go_roundw
          case rel => exact ⟨v, i + 1, rfl, by go_num, by omega, by omega, by rw [HS.out]; exact hm⟩
          case measure => simp [intOf]; omega
      · obtain rfl : tn = i := by omega
        have hne : ¬ (tn : Int) < (tn : Int) := by omega
        obtain ⟨a6, c6, hva, hr6⟩ := row_of_owns hm.out.own
        subst hva
        have HI := hide (ints_yes a3 a6 _ c3 c6 _ wr (R3.out.below hm.out.bel) hr6)
        have KF := hide (KO.on K3.out hm.out.bel)
        clear hm hr6
        generalize (Pk.PL p tn).length = ny at *
        go_wp2_with fail
        refine HI.out.mono ?_
        rintro e w8 ⟨rfl, hd8⟩
        have K8 := hide (below_of_drewN hd8)
        clear hd8 HI
        go_wp2
        go_ret
        exact ⟨rfl, KO.on KF.out K8.out⟩
  · have hR : R = [] := by
      rcases hA with ⟨_, _, _, h⟩ | ⟨_, h, _⟩ | ⟨_, _, h, _⟩
      · exact absurd h hE
      · exact h
      · exact h
    subst hR
    have hEb : (E != 0) = true := bne_iff_ne.2 hE
    simp only [List.length_nil] at HR
    clear h0 hf0 hff htt hA
    go_enter Try.func5, Try.ntmps5
    go_wp2_with fail
    refine HW.out.mono ?_
    rintro e w1 ⟨rfl, hk1⟩
    have K1 := hide hk1
    have HR1 := hide (HR.out w1 hk1)
    clear hk1 HW HR
    go_wp2_with fail
    refine HR1.out.mono ?_
    rintro e w2 ⟨a2, c2, rfl, hp2, hk2⟩
    have K2 := hide (KO.on K1.out hk2)
    clear hp2 hk2 HR1
    go_wp2
    go_ret
    exact ⟨rfl, K2.out⟩
end Go.Proofs.Ytmcbldllbnjipaa
