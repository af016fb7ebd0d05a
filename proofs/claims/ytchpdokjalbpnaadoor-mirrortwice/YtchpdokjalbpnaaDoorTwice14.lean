/- MirrorTwice: a text of one odd level is shown turned about; shown so again it is the text; of an even one as it is. -/
import Derived.Test.YtchpdokjalbpnaaDoorGs14
import Derived.Test.YtchpdokjalbpnaaDoorNew
namespace Go.Proofs.YtchpdokjalbpnaaDoor
open Go.RowKit
set_option linter.unusedVariables false
set_option maxHeartbeats 1600000
set_option maxRecDepth 100000
theorem same_at {L : Int} {n i : Nat} (h : i < n) : (List.replicate n L).getD i 0 = L := by simp [List.getD, h]
/-- One level alone is one run. -/
theorem RR_one {L : Int} (h0 : 0 ≤ L) (h1 : L ≤ 127) (n : Nat) : (Od.RR (List.replicate n L)).length ≤ 1 := by
  have hf := Mi.Fo_same (L := L) (by omega) h1 n
  by_cases hl : (Od.OD (List.replicate n L)).length = 0
  · have h := Od.rows_le (List.replicate n L) (Od.OD (List.replicate n L)) (Od.OD (List.replicate n L)).length
    have e : Od.RR (List.replicate n L) = Od.rows (List.replicate n L) (Od.OD (List.replicate n L)) (Od.OD (List.replicate n L)).length := rfl
    rw [e]
    omega
  · have hat : ∀ k, k < (Od.OD (List.replicate n L)).length → (List.replicate n L).getD ((Od.OD (List.replicate n L)).getD k 0) 0 = L := fun k hk => by
      have := Od.OD_lt hf (Od.OD_in hk)
      rw [List.length_replicate] at this
      exact same_at this
    have hc := Od.rows_cut (lv := List.replicate n L) (l := Od.OD (List.replicate n L)) (b := 0) (e := (Od.OD (List.replicate n L)).length) (by omega) (Nat.le_refl _) rfl (fun k _ hk => by rw [hat (k + 1) hk, hat k (by omega)]) (.inl rfl)
    have e : Od.RR (List.replicate n L) = Od.rows (List.replicate n L) (Od.OD (List.replicate n L)) (Od.OD (List.replicate n L)).length := rfl
    rw [e, hc.1, Od.rows_zero]
    simp
theorem MirrorTwice_walk (w : World) (hm : Marks w) (a0 : Option Addr) (n0 c0 : Nat) (l : List Int) (h0 : Row .i32 w a0 n0 c0 l) (f0 : ∀ x ∈ l, (Lit.int .i32 x).wf = true) (b0 : n0 * 4 ≤ 140737488351232)
    (lev : Int) (hv : (Lit.int .i64 lev).wf = true) :
    Calls Tryd.prog 5 #[.slice a0 n0 c0, .int .i64 lev] w fun e w' => e = .returned (.bool true) ∧ Below w.heap.size w w' := by
  have HW := hide (works14_any w hm)
  have hl0 := h0.len
  obtain ⟨q, hq, eq'⟩ := place_at lev 128 (by omega) (by omega)
  have eq1 : wrap64 ((IntKind.u64.wrap lev).tmod 128) = (q : Int) := eq'
  obtain ⟨ii, hii, hy0, hy1, hy2⟩ := info_parts infoInt
  have HII : Hid (Tryd.prog.info? 3 = some ii) := hii
  have HY0 := hide hy0
  have HY1 := hide hy1
  have HY2 := hide hy2
  have hn2 : n0 ≤ 35184372087808 := by omega
  have hfo := Mi.Fo_same (L := (q : Int)) (by omega) (by omega) n0
  have hRR := RR_one (L := (q : Int)) (by omega) (by omega) n0
  obtain ⟨lv, hlv⟩ : ∃ lv, List.replicate n0 (q : Int) = lv := ⟨_, rfl⟩
  have hll : lv.length = n0 := by rw [← hlv]; simp
  obtain ⟨S, hS⟩ : ∃ S, Mi.SW l lv = S := ⟨_, rfl⟩
  have hSA : SA l lv S 0 := .inl ⟨by omega, by rw [← hlv]; exact hfo, hS.symm, rfl⟩
  have hSw : ∀ x ∈ S, (Lit.int .i32 x).wf = true := by rw [← hS]; exact SW_wf (by rw [← hlv]; exact hfo) (by omega) f0
  have HA := hide (fun (y : Option Addr) (cy : Nat) (w' : World) (hy : Row .i64 w' y n0 cy lv) (hk : KO w w') => show_any a0 y n0 n0 c0 cy l lv w' (h0.below hk) hy f0 (by omega) (by omega) 1 (by rw [← hlv]; exact hRR) (by omega) (hm.below hk) S 0 hSA)
  have HFL : Hid (FL (fun _ => (q : Int)) n0 n0 = lv) := hide (by rw [FL_end, ← hlv, List.map_const', List.length_range])
  by_cases hodd : q % 2 = 1
  · have hSn : S.length = n0 := by rw [← hS, ← hlv]; exact Mi.SW_odd_len (by omega) (by omega) (by omega) n0 l
    have hAT : ∀ i, i < n0 → S.getD i 0 = Mi.gl (l.getD (n0 - 1 - i) 0) 1 := fun i hi => by rw [← hS, ← hlv]; exact Mi.SW_odd (by omega) (by omega) (by omega) hl0 hi
    have hSB : SA S lv l 0 := .inl ⟨by omega, by rw [← hlv]; exact hfo, by rw [← hS, ← hlv]; exact (Mi.SW_twice (by omega) (by omega) (by omega) hl0).symm, rfl⟩
    have HB := hide (fun (x y : Option Addr) (cx cy : Nat) (w' : World) (hx : Row .i32 w' x n0 cx S) (hy : Row .i64 w' y n0 cy lv) (hk : KO w w') => show_any x y n0 n0 cx cy S lv w' hx hy hSw (by omega) (by omega) 1 (by rw [← hlv]; exact hRR) (by omega) (hm.below hk) l 0 hSB)
    have HAT := hide hAT
    have HSn := hide hSn
    have HWF := hide (fun (p : Nat) (hp : p < n0) => f0 (l.getD p 0) (by simp [List.getD, show p < l.length by omega]))
    have HMK := hide hm
    have H0 := hide h0
    have HL0 := hide hl0
    have ht : ¬ ((q : Int) % 2 = 0) := by omega
    have htb : ((q : Int) % 2 == 0) = false := beq_eq_false_iff_ne.2 ht
    rw [hSn] at HA
    rw [hl0] at HB
    clear hlv hS hSA hSw hSB hAT hSn hm h0 f0 hv hii hy0 hy1 hy2 hfo hRR hll hl0 eq'
    have hnn : ((n0 : Int) != (n0 : Int)) = false := by simp
    go_enter Tryd.func5, Tryd.ntmps5
    go_wp2_with fail
    refine HW.out.mono ?_
    rintro e w1 ⟨rfl, hk1⟩
    have K1 := hide hk1
    clear hk1 HW
    go_wp2_with (at_make; refine wpList_make_full _ rfl _ _ 26 rfl w1.heap.size 3 ii (.int .i64 0) 1 Tryd.underlying26 HII.out HY0.out HY1.out _ _ _ _ n0 rfl rfl rfl rfl ?b2 ?b3 (Nat.le_refl _) ?_)
    case b2 => rw [HY2.out]; omega
    case b3 => unfold maxLen; omega
    intro w2 hown hgrow
    have hbel := (Below.refl w1.heap.size w1).grown hgrow (Nat.le_refl _) (fun _ h => by cases h)
    have HN2 := hide (NR.made hown hbel (fun _ => (q : Int)))
    clear hown hgrow hbel
    go_wp2
    go_loopw [6, 23] (fun s6 s23 W => ∃ k : Nat, s23 = .int .i64 (k : Int) ∧ k ≤ n0 ∧ Hid (NR .i64 3 w1 n0 (FL (fun _ => (q : Int)) n0 k) W)) (fun _ s23 _ => n0 - (intOf s23).toNat)
    case atStart => exact ⟨0, rfl, Nat.zero_le _, HN2⟩
    case round =>
      obtain ⟨k, rfl, hk, hnr⟩ := hrel
      by_cases hlt : k < n0
      · have hin : (k : Int) < (n0 : Int) := by omega
        have ck := hnr.out.cell hlt
        have fk := hnr.out.fz k
        have HM := hide (show NR .i64 3 w1 n0 (FL (fun _ => (q : Int)) n0 (k + 1)) (wr.setCell ⟨w1.heap.size, k, none⟩ (.int .i64 (q : Int))) from by
          have := hnr.out.set k (q : Int)
          rw [FL_set (fun _ => (q : Int)) n0 k] at this
          exact this)
        clear hnr
        generalize (FL (fun _ => (q : Int)) n0 k).getD k 0 = old at *
        go_wp2
        go_roundw
        case rel => exact ⟨k + 1, by go_num, by omega, HM⟩
        case measure => simp [intOf]; omega
      · obtain rfl : n0 = k := by omega
        have hne : ¬ (n0 : Int) < (n0 : Int) := by omega
        have hrl : Row .i64 wr (some ⟨w1.heap.size, 0, none⟩) n0 n0 lv := by have := hnr.out.row; rw [HFL.out] at this; exact this
        have RL3 := hide hrl
        have K3 := hide (KO.on K1.out hnr.out.bel)
        have HA3 := hide (HA.out _ _ wr hrl (KO.on K1.out hnr.out.bel))
        clear hnr hrl HA
        go_wp2_with fail
        refine HA3.out.mono ?_
        rintro e w4 ⟨a4, c4, rfl, hr4, hk4⟩
        have K4 := hide (KO.on K3.out hk4)
        have R4 := hide hr4
        have RL4 := hide (RL3.out.below hk4)
        clear hr4 hk4 HA3 RL3
        go_wp2
        go_loopw [9, 54] (fun s9 s54 W => ∃ i : Nat, s54 = .int .i64 (i : Int) ∧ i ≤ n0 ∧ Hid (KO w4 W)) (fun _ s54 _ => n0 - (intOf s54).toNat)
        case atStart => exact ⟨0, rfl, Nat.zero_le _, hide (KO.refl _)⟩
        case round =>
          obtain ⟨i, rfl, hi, hkw⟩ := hrel
          by_cases hlt2 : i < n0
          · have hin2 : (i : Int) < (n0 : Int) := by omega
            obtain ⟨b4, o4, e4, hb4, hc4⟩ := R4.out.cells (by omega)
            subst e4
            obtain ⟨bl, ol, el, hbl, hcl⟩ := H0.out.cells (by omega)
            subst el
            have c4i := hc4 i (by rw [HSn.out]; exact hlt2)
            rw [HAT.out i hlt2] at c4i
            obtain ⟨p, hp⟩ : ∃ p, n0 - 1 - i = p := ⟨_, rfl⟩
            rw [hp] at c4i
            have hp1 : p < n0 := by omega
            have hpn : (p : Int) < (n0 : Int) := by omega
            have hwp : IntKind.i64.wrap (IntKind.i64.wrap ((n0 : Int) - 1) - (i : Int)) = (p : Int) := by
              rw [IntKind.wrap_i64, IntKind.wrap_i64]
              omega
            have HWP := hide hwp
            clear hwp
            have cl0 := hcl p (by rw [HL0.out]; exact hp1)
            have hcS : ∀ W, KO wr W → W.cell? ⟨b4, o4 + i, none⟩ = some (.int .i32 (Mi.gl (l.getD p 0) 1)) := fun W hk => (Below.cell (KO.on hkw.out hk) (by exact hb4)).trans c4i
            have hcL : ∀ W, KO wr W → W.cell? ⟨bl, ol + p, none⟩ = some (.int .i32 (l.getD p 0)) := fun W hk => (Below.cell (KO.on K4.out (KO.on hkw.out hk)) (by exact hbl)).trans cl0
            have hK : KO wr wr := KO.refl _
            have HG := hide (fun (W : World) (hk : KO wr W) => glyph_any (l.getD p 0) 1 W (HWF.out p hp1) (HMK.out.below (KO.on K4.out (KO.on hkw.out hk))))
            clear hc4 hcl cl0 c4i hp
            generalize Mi.gl (l.getD p 0) 1 = g at *
            generalize l.getD p 0 = x at *
            have hgg : (g != g) = false := by simp
            have hwp := HWP.out
            go_wp2
            refine wp_region_noPanic ?_
            go_region_held (fun w' => KO wr w') (first | assumption | exact KO.drew hK)
              (first
                | (go_at_call 8; refine (HG.out _ (by assumption)).mono ?_; rintro e w7 ⟨rfl, hk7⟩; have hk7' : KO wr w7 := KO.on (by assumption) hk7))
            all_goals (
              refine NoPanic.normal ?_
              have HZ7 := hide (KO.on hkw.out hk7')
              clear hk7 hk7' hcS hcL hK hwp
              go_wp2
              go_roundw
              case rel => exact ⟨i + 1, by go_num, by omega, HZ7⟩
              case measure => simp [intOf]; omega)
          · obtain rfl : n0 = i := by omega
            have hne2 : ¬ (n0 : Int) < (n0 : Int) := by omega
            have K5 := hide (KO.on K4.out hkw.out)
            have HB5 := hide (HB.out _ _ _ _ wr (R4.out.below hkw.out) (RL4.out.below hkw.out) (KO.on K4.out hkw.out))
            clear hkw HB
            go_wp2_with fail
            refine HB5.out.mono ?_
            rintro e w6 ⟨a6, c6, rfl, hr6, hk6⟩
            have K6 := hide (KO.on K5.out hk6)
            have HI := hide (runes_yes a6 a0 n0 c6 c0 l w6 hr6 (H0.out.below (KO.on K5.out hk6)))
            clear hr6 hk6 HB5
            go_wp2_with fail
            refine HI.out.mono ?_
            rintro e w8 ⟨rfl, hd8⟩
            have K8 := hide (KO.on K6.out (below_of_drewN hd8))
            clear hd8 HI
            go_wp2
            go_ret
            exact ⟨rfl, K8.out⟩
  · have hSe : S = l := by rw [← hS, ← hlv]; exact Mi.SW_even (by omega) (by omega) (by omega) hl0
    subst hSe
    have HL0 := hide hl0
    have H0 := hide h0
    have ht : (q : Int) % 2 = 0 := by omega
    rw [hl0] at HA
    clear hlv hS hSA hSw hm h0 f0 hv hii hy0 hy1 hy2 hfo hRR hll hl0 eq'
    have hnn : ((n0 : Int) != (n0 : Int)) = false := by simp
    go_enter Tryd.func5, Tryd.ntmps5
    go_wp2_with fail
    refine HW.out.mono ?_
    rintro e w1 ⟨rfl, hk1⟩
    have K1 := hide hk1
    clear hk1 HW
    go_wp2_with (at_make; refine wpList_make_full _ rfl _ _ 26 rfl w1.heap.size 3 ii (.int .i64 0) 1 Tryd.underlying26 HII.out HY0.out HY1.out _ _ _ _ n0 rfl rfl rfl rfl ?b2 ?b3 (Nat.le_refl _) ?_)
    case b2 => rw [HY2.out]; omega
    case b3 => unfold maxLen; omega
    intro w2 hown hgrow
    have hbel := (Below.refl w1.heap.size w1).grown hgrow (Nat.le_refl _) (fun _ h => by cases h)
    have HN2 := hide (NR.made hown hbel (fun _ => (q : Int)))
    clear hown hgrow hbel
    go_wp2
    go_loopw [6, 23] (fun s6 s23 W => ∃ k : Nat, s23 = .int .i64 (k : Int) ∧ k ≤ n0 ∧ Hid (NR .i64 3 w1 n0 (FL (fun _ => (q : Int)) n0 k) W)) (fun _ s23 _ => n0 - (intOf s23).toNat)
    case atStart => exact ⟨0, rfl, Nat.zero_le _, HN2⟩
    case round =>
      obtain ⟨k, rfl, hk, hnr⟩ := hrel
      by_cases hlt : k < n0
      · have hin : (k : Int) < (n0 : Int) := by omega
        have ck := hnr.out.cell hlt
        have fk := hnr.out.fz k
        have HM := hide (show NR .i64 3 w1 n0 (FL (fun _ => (q : Int)) n0 (k + 1)) (wr.setCell ⟨w1.heap.size, k, none⟩ (.int .i64 (q : Int))) from by
          have := hnr.out.set k (q : Int)
          rw [FL_set (fun _ => (q : Int)) n0 k] at this
          exact this)
        clear hnr
        generalize (FL (fun _ => (q : Int)) n0 k).getD k 0 = old at *
        go_wp2
        go_roundw
        case rel => exact ⟨k + 1, by go_num, by omega, HM⟩
        case measure => simp [intOf]; omega
      · obtain rfl : n0 = k := by omega
        have hne : ¬ (n0 : Int) < (n0 : Int) := by omega
        have hrl : Row .i64 wr (some ⟨w1.heap.size, 0, none⟩) n0 n0 lv := by have := hnr.out.row; rw [HFL.out] at this; exact this
        have K3 := hide (KO.on K1.out hnr.out.bel)
        have HA3 := hide (HA.out _ _ wr hrl (KO.on K1.out hnr.out.bel))
        clear hnr hrl HA
        go_wp2_with fail
        refine HA3.out.mono ?_
        rintro e w4 ⟨a4, c4, rfl, hr4, hk4⟩
        have K4 := hide (KO.on K3.out hk4)
        have HI := hide (runes_yes a4 a0 n0 c4 c0 S w4 hr4 (H0.out.below (KO.on K3.out hk4)))
        clear hr4 hk4 HA3
        go_wp2_with fail
        refine HI.out.mono ?_
        rintro e w8 ⟨rfl, hd8⟩
        have K8 := hide (KO.on K4.out (below_of_drewN hd8))
        clear hd8 HI
        go_wp2
        go_ret
        exact ⟨rfl, K8.out⟩
end Go.Proofs.YtchpdokjalbpnaaDoor
