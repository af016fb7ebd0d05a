/- MirrorPlaces: as many are shown as are seen, each the glyph of the place that stands there. -/
import Derived.Test.YtchpdokjalbpnaaDoorGs14
namespace Go.Proofs.YtchpdokjalbpnaaDoor
open Go.RowKit
set_option linter.unusedVariables false
set_option maxHeartbeats 1600000
set_option maxRecDepth 100000
theorem MirrorPlaces_walk (w : World) (hm : Marks w) (a0 : Option Addr) (n0 c0 : Nat) (l : List Int) (h0 : Row .i32 w a0 n0 c0 l) (f0 : ∀ x ∈ l, (Lit.int .i32 x).wf = true) (b0 : n0 ≤ 1048576)
    (a1 : Option Addr) (n1 c1 : Nat) (lv : List Int) (h1 : Row .i64 w a1 n1 c1 lv) (f1 : ∀ x ∈ lv, (Lit.int .i64 x).wf = true) (b1 : n1 ≤ 1048576) :
    Calls Tryd.prog 6 #[.slice a0 n0 c0, .slice a1 n1 c1] w fun e w' => e = .returned (.bool true) ∧ Below w.heap.size w w' := by
  have HW := hide (works14_any w hm)
  have hl0 := h0.len
  have hl1 := h1.len
  obtain ⟨S, E, hA⟩ := SA_some l lv
  have HA := hide (fun (w' : World) (hk : KO w w') => show_any a0 a1 n0 n1 c0 c1 l lv w' (h0.below hk) (h1.below hk) f0 (by omega) (by omega) n1 (by have := RR_le lv; omega) (by omega) (hm.below hk) S E hA)
  by_cases hnm : n0 = n1
  · subst hnm
    have hnn : ((n0 : Int) != (n0 : Int)) = false := by simp
    rcases hA with ⟨_, hf, hS, hE⟩ | ⟨hx, hS, hE⟩
    · subst hE
      have HO := hide (fun (w' : World) (hk : KO w w') => order_any a1 n0 c1 lv w' (h1.below hk) (by omega) (Od.ON lv) 0 (.inl ⟨hf, rfl, rfl⟩))
      have HAT : Hid (∀ k, k < (Od.ON lv).length → ∃ p : Nat, p < n0 ∧ (Od.ON lv).getD k 0 = (p : Int) ∧ S.getD k 0 = Mi.gl (l.getD p 0) (lv.getD p 0)) := hide (fun k hk => by
        rw [Od.ON_len] at hk
        refine ⟨(Od.OD lv).getD k 0, ?_, Od.ON_at hk, ?_⟩
        · have := Od.OD_lt hf (Od.OD_in hk)
          omega
        · rw [hS]
          exact Mi.SW_at hk)
      have HSL : Hid (S.length = (Od.ON lv).length) := hide (by rw [hS, Mi.SW_len, Od.ON_len])
      have HWF := hide (fun (p : Nat) (hp : p < n0) => f0 (l.getD p 0) (by simp [List.getD, show p < l.length by omega]))
      have hLn : (Od.ON lv).length ≤ n0 := by
        have h1 := Od.K_le lv
        rw [Od.ON_len, Od.OD_len]
        omega
      have H0 := hide h0
      have H1 := hide h1
      have HL0 := hide hl0
      have HL1 := hide hl1
      have HMK := hide hm
      clear hS hf h0 h1 f0 f1 hl0 hl1 hm
      generalize Od.ON lv = L at *
      obtain ⟨M, hM⟩ : ∃ M, L.length = M := ⟨_, rfl⟩
      rw [hM] at HO HAT HSL hLn
      rw [HSL.out] at HA
      have HM := hide hM
      clear hM
      have hMM : ((M : Int) != (M : Int)) = false := by simp
      go_enter Tryd.func6, Tryd.ntmps6
      go_wp2_with fail
      refine HW.out.mono ?_
      rintro e w1 ⟨rfl, hk1⟩
      have K1 := hide hk1
      have HA1 := hide (HA.out w1 hk1)
      clear hk1 HA HW
      go_wp2_with fail
      refine HA1.out.mono ?_
      rintro e w2 ⟨a2, c2, rfl, hr2, hk2⟩
      have K2 := hide (KO.on K1.out hk2)
      have R2 := hide hr2
      have HO2 := hide (HO.out w2 (KO.on K1.out hk2))
      clear hr2 hk2 HA1 HO
      go_wp2_with fail
      refine HO2.out.mono ?_
      rintro e w3 ⟨a3, c3, rfl, hr3, hk3⟩
      have K3 := hide (KO.on K2.out hk3)
      have R3 := hide hr3
      have R23 := hide (R2.out.below hk3)
      clear hr3 hk3 HO2 R2
      go_wp2
      go_loopw [9, 10, 48] (fun s9 s10 s48 W => ∃ k : Nat, s48 = .int .i64 (k : Int) ∧ k ≤ M ∧ Hid (KO w3 W)) (fun _ _ s48 _ => M - (intOf s48).toNat)
      case atStart => exact ⟨0, rfl, Nat.zero_le _, hide (KO.refl _)⟩
      case round =>
        obtain ⟨k, rfl, hk, hkw⟩ := hrel
        by_cases hlt : k < M
        · have hin : (k : Int) < (M : Int) := by omega
          obtain ⟨p, hp1, hp2, hp3⟩ := HAT.out k hlt
          obtain ⟨b3, o3, e3, hb3, hc3⟩ := R3.out.cells (by omega)
          subst e3
          obtain ⟨b2, o2, e2, hb2, hc2⟩ := R23.out.cells (by omega)
          subst e2
          obtain ⟨bl, ol, el, hbl, hcl⟩ := H0.out.cells (by omega)
          subst el
          obtain ⟨bv, ov, ev, hbv, hcv⟩ := H1.out.cells (by omega)
          subst ev
          have c3k := (Below.cell hkw.out (by exact hb3)).trans (hc3 k (by rw [HM.out]; exact hlt))
          rw [hp2] at c3k
          have c2k := hc2 k (by rw [HSL.out]; exact hlt)
          rw [hp3] at c2k
          have cl0 := (Below.cell K3.out (by exact hbl)).trans (hcl p (by rw [HL0.out]; exact hp1))
          have cv0 := (Below.cell K3.out (by exact hbv)).trans (hcv p (by rw [HL1.out]; exact hp1))
          have hpn : (p : Int) < (n0 : Int) := by omega
          have hs3 := K3.out.size
          have hcS : ∀ W, KO wr W → W.cell? ⟨b2, o2 + k, none⟩ = some (.int .i32 (Mi.gl (l.getD p 0) (lv.getD p 0))) := fun W hk => (Below.cell (KO.on hkw.out hk) (by exact hb2)).trans c2k
          have hcL : ∀ W, KO wr W → W.cell? ⟨bl, ol + p, none⟩ = some (.int .i32 (l.getD p 0)) := fun W hk => (Below.cell (KO.on hkw.out hk) (show bl < w3.heap.size from Nat.lt_of_lt_of_le hbl K3.out.size)).trans cl0
          have hcV : ∀ W, KO wr W → W.cell? ⟨bv, ov + p, none⟩ = some (.int .i64 (lv.getD p 0)) := fun W hk => (Below.cell (KO.on hkw.out hk) (show bv < w3.heap.size from Nat.lt_of_lt_of_le hbv K3.out.size)).trans cv0
          have hK : KO wr wr := KO.refl _
          have HG := hide (fun (W : World) (hk : KO wr W) => glyph_any (l.getD p 0) (lv.getD p 0) W (HWF.out p hp1) (HMK.out.below (KO.on K3.out (KO.on hkw.out hk))))
          clear hc3 hc2 hcl hcv cl0 cv0 c2k hp2 hp3
          generalize Mi.gl (l.getD p 0) (lv.getD p 0) = g at *
          generalize l.getD p 0 = x at *
          generalize lv.getD p 0 = y at *
          have hgg : (g != g) = false := by simp
          go_wp2
          refine wp_region_noPanic ?_
          go_region_held (fun w' => KO wr w') (first | assumption | exact KO.drew hK)
            (first
              | (go_at_call 8; refine (HG.out _ (by assumption)).mono ?_; rintro e w7 ⟨rfl, hk7⟩; have hk7' : KO wr w7 := KO.on (by assumption) hk7))
          all_goals (
            refine NoPanic.normal ?_
            have HZ7 := hide (KO.on hkw.out hk7')
            clear hk7 hk7' hcS hcL hcV hK
            go_wp2
            go_roundw
            case rel => exact ⟨k + 1, by go_num, by omega, HZ7⟩
            case measure => simp [intOf]; omega)
        · obtain rfl : M = k := by omega
          have hne : ¬ (M : Int) < (M : Int) := by omega
          go_wp2
          go_ret
          exact ⟨rfl, KO.on K3.out hkw.out⟩
    · subst hS hE
      have hf : ¬ Od.Fo lv := fun q => hx ⟨by omega, q⟩
      have HO := hide (fun (w' : World) (hk : KO w w') => order_any a1 n0 c1 lv w' (h1.below hk) (by omega) [] 2 (.inr ⟨hf, rfl, rfl⟩))
      clear h0 h1 f0 f1 hl0 hl1 hm hx hf
      simp only [List.length_nil] at HO HA
      go_enter Tryd.func6, Tryd.ntmps6
      go_wp2_with fail
      refine HW.out.mono ?_
      rintro e w1 ⟨rfl, hk1⟩
      have K1 := hide hk1
      have HA1 := hide (HA.out w1 hk1)
      clear hk1 HA HW
      go_wp2_with fail
      refine HA1.out.mono ?_
      rintro e w2 ⟨a2, c2, rfl, hr2, hk2⟩
      have K2 := hide (KO.on K1.out hk2)
      have HO2 := hide (HO.out w2 (KO.on K1.out hk2))
      clear hr2 hk2 HA1 HO
      go_wp2_with fail
      refine HO2.out.mono ?_
      rintro e w3 ⟨a3, c3, rfl, hr3, hk3⟩
      have K3 := hide (KO.on K2.out hk3)
      clear hr3 hk3 HO2
      go_wp2
      go_loopw [9, 10, 48] (fun s9 s10 s48 W => s48 = .int .i64 0 ∧ w3 = W) (fun _ _ _ _ => 0)
      case atStart => exact ⟨rfl, rfl⟩
      case round =>
        obtain ⟨rfl, rfl⟩ := hrel
        go_wp2
        go_ret
        exact ⟨rfl, K3.out⟩
  · have hnn : ((n0 : Int) != (n1 : Int)) = true := bne_iff_ne.2 (by omega)
    rcases hA with ⟨hx, _⟩ | ⟨_, hS, hE⟩
    · exact absurd (by omega) hnm
    · subst hS hE
      clear h0 h1 f0 f1 hl0 hl1 hm
      simp only [List.length_nil] at HA
      go_enter Tryd.func6, Tryd.ntmps6
      go_wp2_with fail
      refine HW.out.mono ?_
      rintro e w1 ⟨rfl, hk1⟩
      have K1 := hide hk1
      have HA1 := hide (HA.out w1 hk1)
      clear hk1 HA HW
      go_wp2_with fail
      refine HA1.out.mono ?_
      rintro e w2 ⟨a2, c2, rfl, hr2, hk2⟩
      have K2 := hide (KO.on K1.out hk2)
      clear hr2 hk2 HA1
      go_wp2
      go_ret
      exact ⟨rfl, K2.out⟩
end Go.Proofs.YtchpdokjalbpnaaDoor
