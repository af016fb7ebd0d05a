/- SpotSteps: which place stands beside another one is the document's; Offset finds each stop. -/
import Derived.Test.YtbbhefiibcbbfaaRq15
import Derived.Test.YtbbhefiibcbbfaaRs15
import Derived.Test.YtbbhefiibcbbfaaWorks15
namespace Go.Proofs.Ytbbhefiibcbbfaa
open Go.RowKit
set_option linter.unusedVariables false
set_option maxHeartbeats 1000000
set_option maxRecDepth 100000
/-- Each stop is found by its spot. -/
theorem found_self {l : List Int} {b : Int} {Z : List (Int × Int)} {E : Int} (h : SPA l b Z E) {k : Nat} (hk : k < Z.length) (hy : ¬ (Z.getD k (0, 0)).2 = 0) : Spt.OF Z (Z.getD k (0, 0)).1 (Z.getD k (0, 0)).2 = ((k : Int), 0) := by
  rcases h with ⟨⟨hb, hf⟩, rfl, _⟩ | ⟨_, rfl, _⟩
  · have hfa := (Spt.al_fo hb).2 hf
    have hea := Spt.al_endE (l := l) hb
    rw [Spt.SP_len] at hk
    rw [Spt.SP_at _ hk] at hy ⊢
    have hs := (Spt.ln_seen hea hk).1 hy
    obtain ⟨c, h1, h2, h3⟩ := Spt.col_range hfa hea hk
    rw [(Spt.nx_self hea hk).2 hs] at h2
    have hl := Spt.ln_cases (Spt.al l b) k
    have hy' : ¬ Spt.ln (Spt.al l b) k = 0 := hy
    rw [OF_yes (show (Spt.sp (Spt.al l b) k).2 = 1 ∨ (Spt.sp (Spt.al l b) k).2 = -1 from by show Spt.ln _ k = 1 ∨ Spt.ln _ k = -1; omega)]
    unfold FA
    rw [h3, Spt.FI_SP hfa hea h1, h2]
  · exact absurd hk (Nat.not_lt_zero _)
theorem SpotSteps_walk (w : World) (a0 : Option Addr) (n0 cap0 : Nat) (l : List Int) (h0 : Row .i64 w a0 n0 cap0 l) (hf0 : ∀ x ∈ l, (Lit.int .i64 x).wf = true) (hs0 : n0 * 8 ≤ 140737488351232) (b : Int) (hwb : (Lit.int .i64 b).wf = true) (i : Int) (hwi : (Lit.int .i64 i).wf = true) (s : Int) (hws : (Lit.int .i64 s).wf = true) :
    Calls Try.prog 4 #[.slice a0 n0 cap0, .int .i64 b, .int .i64 i, .int .i64 s] w fun e w' => e = .returned (.bool true) ∧ Below w.heap.size w w' := by
  have HW := hide (fun w' => works15_any w')
  by_cases hbig : 60 < n0
  · have hb1 : (60 : Int) < (n0 : Int) := by omega
    clear h0 hf0
    go_enter Try.func4, Try.ntmps4
    go_wp2_with fail
    refine (HW.out _).mono ?_
    rintro e w1 ⟨rfl, hk1⟩
    have K1 := hide hk1
    clear hk1
    go_wp2
    go_ret
    exact ⟨rfl, K1.out⟩
  · have hb1 : ¬ (60 : Int) < (n0 : Int) := by omega
    obtain ⟨Z, E, hA⟩ := SPA_some l b
    have hwz := SPA_wz hA 1000 (by rw [h0.len]; omega)
    have hZn : Z.length ≤ 61 := by
      rcases hA with ⟨_, rfl, _⟩ | ⟨_, rfl, _⟩
      · rw [Spt.SP_len, Spt.al_len, h0.len]; omega
      · simp
    obtain ⟨N, hN⟩ : ∃ N, Z.length = N := ⟨_, rfl⟩
    have hNN : N ≤ 61 := by omega
    have HO := hide (spots_any a0 n0 cap0 l b w h0 (by omega) Z E hA)
    have HR := hide (fun (w' : World) (hk : KO w w') => rspots_any a0 n0 cap0 l b w' (h0.below hk) (by omega) Z E hA)
    have HST := hide (fun (x : Option Addr) (c : Nat) (W : World) (h : ZR W x N c Z) => step_any Z i s 1000 (by omega) hwz x N c W h)
    have HRT := hide (fun (x : Option Addr) (c : Nat) (W : World) (h : IP W x N c Z) => rstep_any Z i s 1000 (by omega) hwz x N c W h)
    have HOF := hide (fun (k : Nat) (x : Option Addr) (c : Nat) (W : World) (h : ZR W x N c Z) => offset_any Z (Z.getD k (0, 0)).1 (Z.getD k (0, 0)).2 1000 (by omega) hwz (by have := (hwz k).1; omega) (by have := (hwz k).2; omega) x N c W h)
    have HFS := hide (fun (k : Nat) (hk : k < N) (hy : ¬ (Z.getD k (0, 0)).2 = 0) => found_self hA (by rw [hN]; exact hk) hy)
    rw [hN] at HO HR
    obtain ⟨r, hr⟩ : ∃ r, Spt.ST Z i s = r := ⟨_, rfl⟩
    rw [hr] at HST HRT
    have hEE : (E != E) = false := by simp
    have hr1 : (r.1 != r.1) = false := by simp
    have hr2 : (r.2 != r.2) = false := by simp
    clear h0 hf0 hA hwz hN hZn hr
    generalize r.1 = ra at *
    generalize r.2 = rb at *
    go_enter Try.func4, Try.ntmps4
    go_wp2_with fail
    refine HO.out.mono ?_
    rintro e w1 ⟨x1, c1, rfl, hz1, hk1⟩
    have K1 := hide hk1
    have Z1 := hide hz1
    have HR1 := hide (HR.out w1 hk1)
    clear hz1 hk1 HO HR
    go_wp2_with fail
    refine HR1.out.mono ?_
    rintro e w2 ⟨x2, c2, rfl, hp2, hk2⟩
    have K2 := hide (KO.on K1.out hk2)
    have Z2 := hide (Z1.out.below hk2)
    have P2 := hide hp2
    have HST2 := hide (HST.out _ _ _ (Z1.out.below hk2))
    clear hp2 hk2 HR1 HST Z1
    go_wp2_with fail
    refine HST2.out.mono ?_
    rintro e w3 ⟨rfl, hk3⟩
    have K3 := hide (KO.on K2.out hk3)
    have Z3 := hide (Z2.out.below hk3)
    have P3 := hide (P2.out.below hk3)
    have HRT3 := hide (HRT.out _ _ _ (P2.out.below hk3))
    clear hk3 HST2 HRT Z2 P2
    go_wp2_with fail
    refine HRT3.out.mono ?_
    rintro e w4 ⟨rfl, hd4⟩
    have K4 := hide (KO.on K3.out (below_of_drewN hd4))
    have Z4 := hide (Z3.out.below (below_of_drewN hd4))
    have P4 := hide (P3.out.below (below_of_drewN hd4))
    clear hd4 HRT3 Z3 P3
    go_wp2_with fail
    refine (HW.out _).mono ?_
    rintro e w5 ⟨rfl, hk5⟩
    have K5 := hide (KO.on K4.out hk5)
    have Z5 := hide (Z4.out.below hk5)
    have P5 := hide (P4.out.below hk5)
    clear hk5 Z4 P4 HW
    go_wp2
    go_loopw [70] (fun s70 W => ∃ k : Nat, s70 = .int .i64 (k : Int) ∧ k ≤ N ∧ Hid (KO w5 W)) (fun s70 _ => N - (intOf s70).toNat)
    case atStart => exact ⟨0, rfl, Nat.zero_le _, hide (KO.refl _)⟩
    case round =>
      obtain ⟨k, rfl, hk, hkw⟩ := hrel
      by_cases hlt : k < N
      · have hin : (k : Int) < (N : Int) := by omega
        obtain ⟨b5, o5, rfl, hb5, hc5⟩ := Z5.out.at (by omega)
        obtain ⟨b6, rfl, hb6, hc6⟩ := P5.out.cells (by omega)
        have cz := (Below.cell hkw.out (by exact hb5)).trans (hc5 k hlt)
        have HCP := hide (fun W (h : KO wr W) => (Below.cell (KO.on hkw.out h) (by exact hb6)).trans (hc6 k hlt).2)
        have HOk := hide (HOF.out k _ _ wr (Z5.out.below hkw.out))
        by_cases hy : (Z.getD k (0, 0)).2 = 0
        · rw [OF_no (Z := Z) (x := (Z.getD k (0, 0)).1) (y := (Z.getD k (0, 0)).2) (by omega)] at HOk
          have hyb : ((Z.getD k (0, 0)).2 == 0) = true := by rw [hy]; rfl
          generalize Fl.fb (Z.getD k (0, 0)).1 = X at *
          generalize Fl.fb (Z.getD k (0, 0)).2 = Y at *
          generalize (Z.getD k (0, 0)).2 = y at *
          clear hc5 hc6 hy
          go_wp2_with fail
          refine HOk.out.mono ?_
          rintro e w6 ⟨rfl, hk6⟩
          have K6 := hide (KO.on hkw.out hk6)
          have cp := HCP.out w6 hk6
          clear hk6 HOk hkw
          go_wp2
          go_roundw
          case rel => exact ⟨k + 1, by go_num, by omega, K6⟩
          case measure => simp [intOf]; omega
        · rw [HFS.out k hlt hy] at HOk
          have hyb : ((Z.getD k (0, 0)).2 == 0) = false := beq_eq_false_iff_ne.2 hy
          have hkk : ((k : Int) != (k : Int)) = false := by simp
          generalize Fl.fb (Z.getD k (0, 0)).1 = X at *
          generalize Fl.fb (Z.getD k (0, 0)).2 = Y at *
          generalize (Z.getD k (0, 0)).2 = y at *
          clear hc5 hc6 hy
          go_wp2_with fail
          refine HOk.out.mono ?_
          rintro e w6 ⟨rfl, hk6⟩
          have K6 := hide (KO.on hkw.out hk6)
          have cp := HCP.out w6 hk6
          clear hk6 HOk hkw
          go_wp2
          go_roundw
          case rel => exact ⟨k + 1, by go_num, by omega, K6⟩
          case measure => simp [intOf]; omega
      · obtain rfl : N = k := by omega
        have hne : ¬ (N : Int) < (N : Int) := by omega
        have K7 := hide (KO.on K5.out hkw.out)
        clear hkw
        go_wp2
        go_ret
        exact ⟨rfl, K7.out⟩
end Go.Proofs.Ytbbhefiibcbbfaa
