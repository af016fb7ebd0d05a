/- SpotColumns: the columns of the stops are 0, 1 and so on. -/
import Derived.Test.YtbbhefiibcbbfaaWorks15
namespace Go.Proofs.Ytbbhefiibcbbfaa
open Go.RowKit
set_option linter.unusedVariables false
set_option maxHeartbeats 1600000
set_option maxRecDepth 100000
namespace Spt
/-- How many of the first k places are seen. -/
def SC (a : List Int) (k : Nat) : Nat := ((List.range k).filter (Od.sn a)).length
theorem SC_le (a : List Int) (k : Nat) : SC a k ≤ k := by
  have := List.length_filter_le (Od.sn a) (List.range k)
  rwa [List.length_range] at this
theorem SC_succ (a : List Int) (k : Nat) : SC a (k + 1) = SC a k + if Od.sn a k = true then 1 else 0 := by
  unfold SC
  rw [List.range_succ, List.filter_append, List.length_append]
  by_cases h : Od.sn a k = true <;> simp [h]
theorem SC_all (a : List Int) : SC a a.length = (Od.OD a).length := by rw [Od.OD_len]; rfl
/-- What a walk through the columns meets. -/
structure CT (Z : List (Int × Int)) (n m : Nat) (at' : Nat → Nat) : Prop where
  one : 1 ≤ m
  le : m ≤ n + 1
  lt : ∀ c, c < m → at' c < n + 1
  col : ∀ c, c < m → (Z.getD (at' c) (0, 0)).1 = (c : Int)
  first : OF Z 0 1 = ((at' 0 : Int), 0)
  next : ∀ c, c + 1 < m → ST Z (at' c : Int) 1 = ((at' (c + 1) : Int), 0)
  edge : ST Z (at' (m - 1) : Int) 1 = (0, 150)
theorem ct {a : List Int} (hf : Od.Fo a) (he : End a) {n : Nat} (hn : a.length = n + 1) : CT (SP a) n (Od.OD a).length (fun c => (Od.OD a).getD c 0) := by
  have hp := OD_pos hf he
  have hA : ∀ c, c < (Od.OD a).length → (Od.OD a).getD c 0 < a.length ∧ (sp a ((Od.OD a).getD c 0)).1 = (c : Int) := fun c hc => by
    have hs := ((Od.OD_vis hf).mem _).1 (Od.OD_in hc)
    refine ⟨(Od.sn_at hs).1, ?_⟩
    rw [sp_seen he hs]
    exact co_at hf hc
  refine ⟨hp, ?_, fun c hc => ?_, fun c hc => ?_, ?_, fun c hc => ?_, ?_⟩
  · have := Od.K_le a
    rw [Od.OD_len]
    omega
  · have := (hA c hc).1
    show (Od.OD a).getD c 0 < n + 1
    omega
  · show ((SP a).getD ((Od.OD a).getD c 0) (0, 0)).1 = (c : Int)
    rw [SP_at a (hA c hc).1]
    exact (hA c hc).2
  · rw [OF_yes (.inl rfl)]
    unfold FA
    rw [show (0 : Int) = ((0 : Nat) : Int) from rfl, FI_SP hf he hp]
  · have := (ST_SP hf he (hA c (by omega)).1 (hA c (by omega)).2 (by omega)).1
    rw [if_pos hc, if_pos hc] at this
    exact this
  · have hm : (Od.OD a).length - 1 < (Od.OD a).length := by omega
    have hc : ¬ (Od.OD a).length - 1 + 1 < (Od.OD a).length := by omega
    have := (ST_SP hf he (hA _ hm).1 (hA _ hm).2 hm).1
    rw [if_neg hc, if_neg hc] at this
    exact this
/-- Which way a spot leans. -/
theorem leaning {a : List Int} (he : End a) {i : Nat} (hi : i < a.length) : (0 ≤ a.getD i 0 ∧ Od.sn a i = true ∧ (((SP a).getD i (0, 0)).2 = 1 ∨ ((SP a).getD i (0, 0)).2 = -1)) ∨ (a.getD i 0 < 0 ∧ ¬ Od.sn a i = true ∧ ((SP a).getD i (0, 0)).2 = 0) := by
  rw [SP_at a hi]
  by_cases h : 0 ≤ a.getD i 0
  · have hs := Od.sn_of h hi
    refine .inl ⟨h, hs, ?_⟩
    rw [sp_seen he hs]
    show 1 - 2 * (a.getD i 0 % 2) = 1 ∨ 1 - 2 * (a.getD i 0 % 2) = -1
    omega
  · refine .inr ⟨by omega, fun q => h (Od.sn_at q).2, ?_⟩
    have := ln_seen he hi
    show ln a i = 0
    by_cases q : ln a i = 0
    · exact q
    · exact absurd (this.1 q) h
end Spt
theorem SpotColumns_walk (w : World) (a0 : Option Addr) (n0 c0 : Nat) (l : List Int) (h0 : Row .i64 w a0 n0 c0 l) (f0 : ∀ x ∈ l, (Lit.int .i64 x).wf = true) (b0 : n0 * 8 ≤ 140737488351232) (base : Int) (hbs : (Lit.int .i64 base).wf = true) :
    Calls Try.prog 6 #[.slice a0 n0 c0, .int .i64 base] w fun e w' => e = .returned (.bool true) ∧ Below w.heap.size w w' := by
  have HW := hide (works15_any w)
  by_cases hbig : 500 < n0
  · have hb1 : (500 : Int) < (n0 : Int) := by omega
    clear h0 f0
    go_enter Try.func6, Try.ntmps6
    go_wp2_with fail
    refine HW.out.mono ?_
    rintro e w1 ⟨rfl, hk1⟩
    have K1 := hide hk1
    clear hk1
    go_wp2
    go_ret
    exact ⟨rfl, K1.out⟩
  have hb1 : ¬ (500 : Int) < (n0 : Int) := by omega
  obtain ⟨Z, E, hSA⟩ := SPA_some l base
  have hwz := SPA_wz hSA 1000 (by rw [h0.len]; omega)
  have HA := hide (fun (W : World) (hk : KO w W) => spots_any a0 n0 c0 l base W (h0.below hk) b0 Z E hSA)
  have hl := h0.len
  clear hbs f0
  rcases hSA with ⟨⟨hb01, hfo⟩, hZ, rfl⟩ | ⟨_, rfl, rfl⟩
  · have hZl : Z.length = n0 + 1 := by rw [hZ, Spt.SP_len, Spt.al_len, hl]
    have hfa := (Spt.al_fo hb01).2 hfo
    have hea := Spt.al_endE (l := l) hb01
    have hal : (Spt.al l base).length = n0 + 1 := by rw [Spt.al_len, hl]
    have HCT := hide (Spt.ct hfa hea hal)
    rw [← hZ] at HCT
    have HLN := hide (fun (i : Nat) (hi : i < n0 + 1) => Spt.leaning hea (i := i) (by rw [hal]; exact hi))
    rw [← hZ] at HLN
    have HAT := hide (fun (i : Nat) (hi : i < n0) => Spt.al_at (l := l) (b := base) (i := i) (by rw [hl]; exact hi))
    have HEND : Hid (0 ≤ (Spt.al l base).getD n0 0) := hide (by have := hea.2; rw [hal, Nat.add_sub_cancel] at this; exact this)
    have HSC := hide (Spt.SC_all (Spt.al l base))
    rw [hal] at HSC
    have HCN := hide (fun k => Spt.SC_succ (Spt.al l base) k)
    have HCL := hide (fun k => Spt.SC_le (Spt.al l base) k)
    have HST := hide (fun (i s : Int) (x : Option Addr) (c : Nat) (W : World) (h : ZR W x (n0 + 1) c Z) => step_any Z i s 1000 (by omega) hwz x (n0 + 1) c W h)
    have HOF := hide (fun (x : Option Addr) (c : Nat) (W : World) (h : ZR W x (n0 + 1) c Z) => offset_any Z 0 1 1000 (by omega) hwz (by decide) (by decide) x (n0 + 1) c W h)
    rw [Fl.fb_zero, Fl.fb_one, HCT.out.first] at HOF
    have HWZ := hide hwz
    have H0 := hide h0
    have HL := hide hl
    rw [hZl] at HA
    obtain ⟨a, ha⟩ : ∃ a, Spt.al l base = a := ⟨_, rfl⟩
    rw [ha] at HCT HSC HLN HAT HCN HCL HOF HEND
    clear hZ hb01 hfo hwz hZl hfa hea hal h0 hl ha
    obtain ⟨m, hm⟩ : ∃ m, (Od.OD a).length = m := ⟨_, rfl⟩
    obtain ⟨at', hat⟩ : ∃ at' : Nat → Nat, (fun c => (Od.OD a).getD c 0) = at' := ⟨_, rfl⟩
    have e0 : (Od.OD a).getD 0 0 = at' 0 := congrFun hat 0
    rw [hm] at HCT HSC
    rw [hat] at HCT
    rw [e0] at HOF
    clear hm hat e0
    go_enter Try.func6, Try.ntmps6
    go_wp2_with fail
    refine HW.out.mono ?_
    rintro e w1 ⟨rfl, hk1⟩
    have K1 := hide hk1
    have HA1 := hide (HA.out w1 hk1)
    clear hk1 HW HA
    go_wp2_with fail
    refine HA1.out.mono ?_
    rintro e w2 ⟨x2, c2, rfl, hz2, hk2⟩
    have K2 := hide (KO.on K1.out hk2)
    have Z2 := hide hz2
    clear hz2 hk2 HA1 K1
    go_wp2
    obtain ⟨b2, o2, rfl, hb2, hc2⟩ := Z2.out.at (by omega)
    have HC2 := hide hc2
    clear hc2
    go_loop [7, 32] (fun s7 s32 => ∃ k c : Nat, s32 = .int .i64 (k : Int) ∧ k ≤ n0 + 1 ∧ s7 = .int .i64 (c : Int) ∧ c ≤ k ∧ Hid (c = Spt.SC a k)) (fun _ s32 => n0 + 1 - (intOf s32).toNat)
    case atStart => exact ⟨0, 0, rfl, Nat.zero_le _, rfl, Nat.le_refl _, hide rfl⟩
    case round =>
      obtain ⟨k, c, rfl, hk, rfl, hck, hc⟩ := hrel
      by_cases hlt : k < n0 + 1
      · have hin : (k : Int) < (n0 : Int) + 1 := by omega
        have cz := HC2.out k hlt
        have hwk := HWZ.out k
        have hcn := HCN.out k
        rw [← hc.out] at hcn
        have hln := HLN.out k hlt
        by_cases hend : k = n0
        · obtain rfl := hend
          have hkk : ((k : Int) == (k : Int)) = true := by simp
          obtain ⟨q1, q2, q3⟩ | ⟨q1, q2, q3⟩ := hln
          · have r1 := Fl.eq_fb (a := (Z.getD k (0, 0)).2) (b := 1) (by omega) (by decide)
            rw [Fl.fb_one] at r1
            rw [if_pos q2] at hcn
            have HN : Hid (c + 1 = Spt.SC a (k + 1)) := hide (by omega)
            rcases q3 with q3 | q3
            · rw [decide_eq_true q3] at r1
              generalize Fl.fb (Z.getD k (0, 0)).1 = X at *
              generalize Fl.fb (Z.getD k (0, 0)).2 = Y at *
              clear q1
              clear hwk hcn hc q2 q3
              go_wp2
              go_round
              case rel => exact ⟨k + 1, c + 1, by go_num, by omega, by go_num, by omega, HN⟩
              case measure => simp [intOf]
            · have r2 := Fl.eq_fb (a := (Z.getD k (0, 0)).2) (b := -1) (by omega) (by decide)
              rw [Fl.fb_neg, decide_eq_true q3] at r2
              rw [decide_eq_false (by omega)] at r1
              generalize Fl.fb (Z.getD k (0, 0)).1 = X at *
              generalize Fl.fb (Z.getD k (0, 0)).2 = Y at *
              clear q1
              clear hwk hcn hc q2 q3
              go_wp2
              go_round
              case rel => exact ⟨k + 1, c + 1, by go_num, by omega, by go_num, by omega, HN⟩
              case measure => simp [intOf]
          · exact absurd (HEND.out) (by omega)
        · have hkn : k < n0 := by omega
          have hki : (k : Int) < (n0 : Int) := by omega
          have hkk : ((k : Int) == (n0 : Int)) = false := beq_eq_false_iff_ne.2 (by omega)
          obtain ⟨bl, ol, rfl, hbl, hcl⟩ := H0.out.cells (by omega)
          have cl := (Below.cell K2.out (by exact hbl)).trans (hcl k (by rw [HL.out]; exact hkn))
          rw [← HAT.out k hkn] at cl
          rcases hln with ⟨q1, q2, q3⟩ | ⟨q1, q2, q3⟩
          · have r1 := Fl.eq_fb (a := (Z.getD k (0, 0)).2) (b := 1) (by omega) (by decide)
            rw [Fl.fb_one] at r1
            rw [if_pos q2] at hcn
            have HN : Hid (c + 1 = Spt.SC a (k + 1)) := hide (by omega)
            rcases q3 with q3 | q3
            · rw [decide_eq_true q3] at r1
              generalize Fl.fb (Z.getD k (0, 0)).1 = X at *
              generalize Fl.fb (Z.getD k (0, 0)).2 = Y at *
              generalize a.getD k 0 = ak at *
              clear hcl
              clear hwk hcn hc q2 q3
              go_wp2
              go_round
              case rel => exact ⟨k + 1, c + 1, by go_num, by omega, by go_num, by omega, HN⟩
              case measure => simp [intOf]; omega
            · have r2 := Fl.eq_fb (a := (Z.getD k (0, 0)).2) (b := -1) (by omega) (by decide)
              rw [Fl.fb_neg, decide_eq_true q3] at r2
              rw [decide_eq_false (by omega)] at r1
              generalize Fl.fb (Z.getD k (0, 0)).1 = X at *
              generalize Fl.fb (Z.getD k (0, 0)).2 = Y at *
              generalize a.getD k 0 = ak at *
              clear hcl
              clear hwk hcn hc q2 q3
              go_wp2
              go_round
              case rel => exact ⟨k + 1, c + 1, by go_num, by omega, by go_num, by omega, HN⟩
              case measure => simp [intOf]; omega
          · have r1 := Fl.eq_fb (a := (Z.getD k (0, 0)).2) (b := 1) (by omega) (by decide)
            have r2 := Fl.eq_fb (a := (Z.getD k (0, 0)).2) (b := -1) (by omega) (by decide)
            have r3 := Fl.ne_zero (a := (Z.getD k (0, 0)).2) (by omega)
            rw [Fl.fb_one, decide_eq_false (by omega)] at r1
            rw [Fl.fb_neg, decide_eq_false (by omega)] at r2
            rw [decide_eq_true q3] at r3
            simp only [Bool.not_true] at r3
            rw [if_neg q2] at hcn
            have HN : Hid (c = Spt.SC a (k + 1)) := hide (by omega)
            have q1' : ¬ 0 ≤ a.getD k 0 := by omega
            generalize Fl.fb (Z.getD k (0, 0)).1 = X at *
            generalize Fl.fb (Z.getD k (0, 0)).2 = Y at *
            generalize a.getD k 0 = ak at *
            clear hwk hcn hc hcl q2 q3
            go_wp2
            go_round
            case rel => exact ⟨k + 1, c, by go_num, by omega, rfl, by omega, HN⟩
            case measure => simp [intOf]; omega
      · obtain rfl : n0 + 1 = k := by omega
        have hne : ¬ (n0 : Int) + 1 < (n0 : Int) + 1 := by omega
        have hcm : Hid (c = m) := hide (by rw [hc.out, HSC.out])
        have hm1 := HCT.out.one
        have hm2 := HCT.out.le
        obtain rfl := hcm.out
        have HOF2 := hide (HOF.out _ _ w2 Z2.out)
        clear hc HOF hcm
        go_wp2_with fail
        refine HOF2.out.mono ?_
        rintro e w3 ⟨rfl, hk3⟩
        have K3 := hide (KO.on K2.out hk3)
        have HK3 := hide hk3
        clear hk3 HOF2
        go_wp2
        go_loopw [11, 12, 13] (fun s11 s12 s13 W => ∃ n : Nat, s13 = .int .i64 (n : Int) ∧ 1 ≤ n ∧ n ≤ c ∧ s11 = .int .i64 (at' (n - 1) : Int) ∧ s12 = .int .i64 0 ∧ Hid (KO w2 W)) (fun _ _ s13 _ => c - (intOf s13).toNat)
        case atStart => exact ⟨1, rfl, Nat.le_refl _, by omega, rfl, rfl, HK3⟩
        case round =>
          obtain ⟨n, rfl, hn1, hn2, rfl, rfl, hkw⟩ := hrel
          by_cases hlt2 : n < c
          · have hin2 : (n : Int) < (c : Int) := by omega
            have HS := hide (HST.out (at' (n - 1) : Int) 1 _ _ wr (Z2.out.below hkw.out))
            rw [HCT.out.next (n - 1) (by omega), Nat.sub_add_cancel hn1] at HS
            have HE : Hid (at' n = at' (n + 1 - 1)) := hide rfl
            generalize (at' (n - 1) : Int) = x0 at *
            generalize hx1 : (at' n : Int) = x1 at *
            have HX1 := hide hx1
            clear hx1
            go_wp2_with fail
            refine HS.out.mono ?_
            rintro e w4 ⟨rfl, hk4⟩
            have K4 := hide (KO.on hkw.out hk4)
            clear hk4 HS hkw
            go_wp2
            go_roundw
            case rel => exact ⟨n + 1, by go_num, by omega, by omega, by rw [← HX1.out]; rfl, rfl, K4⟩
            case measure => simp [intOf]; omega
          · obtain rfl : n = c := by omega
            have hne2 : ¬ (n : Int) < (n : Int) := by omega
            have HS := hide (HST.out (at' (n - 1) : Int) 1 _ _ wr (Z2.out.below hkw.out))
            rw [HCT.out.edge] at HS
            have hlt3 := HCT.out.lt (n - 1) (by omega)
            have hcol := HCT.out.col (n - 1) (by omega)
            generalize at' (n - 1) = p at *
            have hpi : (p : Int) < (n0 : Int) + 1 := by omega
            have cp := (Below.cell hkw.out (by exact hb2)).trans (HC2.out p hlt3)
            have r1 := Fl.ne_fb (a := (Z.getD p (0, 0)).1) (b := (n : Int) - 1) (by omega) (by omega)
            rw [decide_eq_true (by omega)] at r1
            simp only [Bool.not_true] at r1
            generalize Fl.fb (Z.getD p (0, 0)).1 = X at *
            generalize Fl.fb (Z.getD p (0, 0)).2 = Y at *
            unfold Fl.fb at r1
            have K5 := hide (KO.on K2.out hkw.out)
            clear hkw hcol
            go_wp2_with fail
            refine HS.out.mono ?_
            rintro e w4 ⟨rfl, hk4⟩
            have K6 := hide (KO.on K5.out hk4)
            clear hk4 HS
            go_wp2
            go_ret
            exact ⟨rfl, K6.out⟩
  · clear h0 hwz hl
    simp only [List.length_nil] at HA
    go_enter Try.func6, Try.ntmps6
    go_wp2_with fail
    refine HW.out.mono ?_
    rintro e w1 ⟨rfl, hk1⟩
    have K1 := hide hk1
    have HA1 := hide (HA.out w1 hk1)
    clear hk1 HW HA
    go_wp2_with fail
    refine HA1.out.mono ?_
    rintro e w2 ⟨x2, c2, rfl, hz2, hk2⟩
    have K2 := hide (KO.on K1.out hk2)
    clear hz2 hk2 HA1
    go_wp2
    go_ret
    exact ⟨rfl, K2.out⟩
end Go.Proofs.Ytbbhefiibcbbfaa
