/- Glyph and Show: the program's, by contract. -/
import Derived.Test.YtchpdokjalbpnaaDoorGl14
import Derived.Test.YtchpdokjalbpnaaDoorMirr
import Derived.Test.YtchpdokjalbpnaaDoorRu13
import Derived.Test.YtchpdokjalbpnaaDoorSpare
import Derived.Test.YtchpdokjalbpnaaDoorInts
import Derived.Deep.RegionHeldLaw
import Derived.Deep.RegionHeld3
namespace Go.Proofs.YtchpdokjalbpnaaDoor
open Go.RowKit
set_option linter.unusedVariables false
set_option maxHeartbeats 1600000
set_option maxRecDepth 100000
theorem infoRune14 : (Tryd.prog.info? 21).map (fun i => (i.zero, i.size, i.bytes)) = some (some (.int .i32 0), 1, 4) := by kernel_rfl
theorem isOdd_any (lv : Int) (w : World) : Calls Tryd.prog 16 #[.int .i64 lv] w fun e w' => e = .returned (.bool (decide (0 ≤ lv ∧ lv % 2 = 1))) ∧ w = w' := by
  by_cases ho : 0 ≤ lv ∧ lv % 2 = 1
  · have ht : lv.tmod 2 = 1 := by rw [Int.tmod_eq_emod_of_nonneg ho.1]; exact ho.2
    rw [decide_eq_true ho]
    clear ho
    generalize hx : lv.tmod 2 = x at ht
    subst ht
    go_enter Tryd.func16, Tryd.ntmps16
    go_wp2
    go_ret
    exact ⟨rfl, rfl⟩
  · have ht : ¬ lv.tmod 2 = 1 := by
      intro q
      by_cases h0 : 0 ≤ lv
      · rw [Int.tmod_eq_emod_of_nonneg h0] at q
        exact ho ⟨h0, q⟩
      · have h1 := Int.neg_tmod (-lv) 2
        rw [Int.neg_neg, Int.tmod_eq_emod_of_nonneg (a := -lv) (by omega)] at h1
        omega
    have htb : (lv.tmod 2 == 1) = false := by simpa using ht
    rw [decide_eq_false ho]
    clear ho
    generalize hx : lv.tmod 2 = x at ht htb
    go_enter Tryd.func16, Tryd.ntmps16
    go_wp2
    go_ret
    exact ⟨rfl, rfl⟩
theorem glyph_any (r lv : Int) (w : World) (hr : (Lit.int .i32 r).wf = true) (hm : Marks w) :
    Calls Tryd.prog 8 #[.int .i32 r, .int .i64 lv] w fun e w' => e = .returned (.int .i32 (Mi.gl r lv)) ∧ KO w w' := by
  have HO := hide (isOdd_any lv w)
  have HM := hide (mirror_any r w hr hm)
  by_cases ho : 0 ≤ lv ∧ lv % 2 = 1
  · rw [decide_eq_true ho] at HO
    cases hb : (Ucd.mir r).2 with
    | true =>
      rw [hb, ← Mi.gl_yes ho hb] at HM
      clear ho hb hr hm
      generalize Mi.gl r lv = g at *
      go_enter Tryd.func8, Tryd.ntmps8
      go_wp2_with (first
        | (go_at_call 16; refine HO.out.mono ?_; rintro e w1 ⟨rfl, rfl⟩)
        | (go_at_call 17; refine HM.out.mono ?_; rintro e w1 ⟨rfl, hk1⟩; have HK := hide hk1; clear hk1))
      go_ret
      exact ⟨rfl, HK.out⟩
    | false =>
      rw [hb] at HM
      rw [Mi.gl_no hb]
      clear ho hb hr hm
      generalize (Ucd.mir r).1 = g at *
      go_enter Tryd.func8, Tryd.ntmps8
      go_wp2_with (first
        | (go_at_call 16; refine HO.out.mono ?_; rintro e w1 ⟨rfl, rfl⟩)
        | (go_at_call 17; refine HM.out.mono ?_; rintro e w1 ⟨rfl, hk1⟩; have HK := hide hk1; clear hk1))
      go_ret
      exact ⟨rfl, HK.out⟩
  · rw [decide_eq_false ho] at HO
    rw [Mi.gl_even ho]
    clear ho hr hm HM
    go_enter Tryd.func8, Tryd.ntmps8
    go_wp2_with (go_at_call 16; refine HO.out.mono ?_; rintro e w1 ⟨rfl, rfl⟩)
    go_ret
    exact ⟨rfl, KO.refl _⟩
namespace Mi
theorem flat_next (R : List (List Int)) {j : Nat} (h : j < R.length) : (R.take (j + 1)).flatten = (R.take j).flatten ++ R.getD j [] := by
  rw [List.take_succ_eq_append_getElem h, List.flatten_append]
  simp [List.getD, h]
theorem flat_rest (R : List (List Int)) (j : Nat) : R.flatten = (R.take j).flatten ++ (R.drop j).flatten := by rw [← List.flatten_append, List.take_append_drop]
theorem app_at (A Q B : List Int) {i : Nat} (hi : i < Q.length) : (A ++ (Q ++ B)).getD (A.length + i) 0 = Q.getD i 0 := by simp [List.getD, List.getElem?_append_right, List.getElem?_append_left hi]
theorem flat_at {R : List (List Int)} {j i : Nat} (h : j < R.length) (hi : i < (R.getD j []).length) : R.flatten.getD ((R.take j).flatten.length + i) 0 = (R.getD j []).getD i 0 := by
  rw [flat_rest R (j + 1), flat_next R h, List.append_assoc, app_at _ _ _ hi]
theorem flat_le (R : List (List Int)) (j : Nat) : (R.take j).flatten.length ≤ R.flatten.length := by
  rw [flat_rest R j, List.length_append]
  omega
/-- What is known of the i-th place of the j-th piece. -/
theorem piece_at {l lv : List Int} {R : List (List Int)} (hR : R.flatten = Od.ON lv) (hf : Od.Fo lv) {j i : Nat} (h : j < R.length) (hi : i < (R.getD j []).length) :
    ∃ p : Nat, p < lv.length ∧ (R.getD j []).getD i 0 = (p : Int) ∧ (R.take j).flatten.length + i < (SW l lv).length ∧ (SW l lv).take ((R.take j).flatten.length + i + 1) = (SW l lv).take ((R.take j).flatten.length + i) ++ [gl (l.getD p 0) (lv.getD p 0)] := by
  have h1 := flat_le R (j + 1)
  rw [flat_next R h, List.length_append, hR, Od.ON_len] at h1
  have hk : (R.take j).flatten.length + i < (Od.OD lv).length := by omega
  refine ⟨(Od.OD lv).getD ((R.take j).flatten.length + i) 0, Od.OD_lt hf (Od.OD_in hk), ?_, by rw [SW_len]; exact hk, SW_next hk⟩
  rw [← flat_at h hi, hR, Od.ON_at hk]
end Mi
/-- What is shown so far. -/
structure GW (w : World) (n k : Nat) (S : List Int) (wr : World) : Prop where
  own : wr.ownsRow w.heap.size 21 1 (.slice (some ⟨w.heap.size, 0, none⟩) k n) k ((S.take k).map (Value.int .i32))
  bel : KO w wr
theorem glyphs_any (al av ap : Option Addr) (n cl cv cp : Nat) (l lv : List Int) (R : List (List Int)) (w : World) (hl : Row .i32 w al n cl l) (hv : Row .i64 w av n cv lv) (hp : RL w ap cp R) (hR : R.flatten = Od.ON lv) (hf : Od.Fo lv) (hw : ∀ x ∈ l, (Lit.int .i32 x).wf = true) (hn : n * 4 ≤ 281474976710656) (hm : Marks w) :
    Calls Tryd.prog 20 #[.slice al n cl, .slice av n cv, .slice ap R.length cp] w fun e w' => ∃ v, e = .returned v ∧ w'.ownsRow w.heap.size 21 1 v (Mi.SW l lv).length ((Mi.SW l lv).map (Value.int .i32)) ∧ KO w w' := by
  have HP := hide (fun (j i : Nat) (h : j < R.length) (hi : i < (R.getD j []).length) => Mi.piece_at (l := l) hR hf h hi)
  have HFL : Hid ((R.take R.length).flatten.length = (Mi.SW l lv).length) := hide (by rw [List.take_length, hR, Od.ON_len, Mi.SW_len])
  have HFN := hide (fun (j : Nat) (h : j < R.length) => show (R.take (j + 1)).flatten.length = (R.take j).flatten.length + (R.getD j []).length from by rw [Mi.flat_next R h, List.length_append])
  have HSn : Hid ((Mi.SW l lv).length ≤ n) := hide (by rw [Mi.SW_len]; have := Od.K_le lv; rw [Od.OD_len]; rw [hv.len] at this; exact this)
  have HWF := hide (fun (p : Nat) (hp : p < l.length) => hw (l.getD p 0) (by simp [List.getD, hp]))
  have HL := hide hl
  have HV := hide hv
  have HLl := hide hl.len
  have HVl := hide hv.len
  have HR := hide hp
  have HMK := hide hm
  have hle := hp.le
  have hmax := hp.max
  obtain ⟨ii, hii, hy0, hy1, hy2⟩ := info_parts infoRune14
  have HII : Hid (Tryd.prog.info? 21 = some ii) := hii
  have HY0 := hide hy0
  have HY1 := hide hy1
  have HY2 := hide hy2
  clear hl hv hp hR hf hw hm hii hy0 hy1 hy2
  unfold maxLen at hmax
  obtain ⟨S, hS⟩ : ∃ S, Mi.SW l lv = S := ⟨_, rfl⟩
  rw [hS] at HFL HSn ⊢
  simp only [hS] at HP
  obtain ⟨m, hmS⟩ : ∃ m, S.length = m := ⟨_, rfl⟩
  rw [hmS] at HFL HSn ⊢
  simp only [hmS] at HP
  have HMS := hide hmS
  clear hS hmS
  obtain ⟨N, hN⟩ : ∃ N, R.length = N := ⟨_, rfl⟩
  rw [hN] at hle HFL HFN HP ⊢
  have HN := hide hN
  clear hN
  have hn2 : n ≤ 70368744177664 := by omega
  go_enter Tryd.func20, Tryd.ntmps20
  go_wp2_with (at_make; refine wpList_make_own _ rfl _ _ 25 rfl w.heap.size 21 ii (.int .i32 0) 1 Tryd.underlying25 HII.out HY0.out HY1.out _ _ _ n rfl rfl rfl ?b2 ?b3 (Nat.le_refl _) ?_)
  case b2 => rw [HY2.out]; omega
  case b3 => unfold maxLen; omega
  intro w1 hown hgrow
  have hbel := (Below.refl w.heap.size w).grown hgrow (Nat.le_refl _) (fun _ h => by cases h)
  have HO : Hid (GW w n 0 S w1) := hide ⟨by simpa using hown, hbel⟩
  clear hown hgrow hbel
  go_wp2
  go_loopw [7, 9, 11, 17] (fun s7 s9 s11 s17 W => ∃ j k : Nat, s17 = .int .i64 (j : Int) ∧ j ≤ N ∧ s7 = .slice (some ⟨w.heap.size, 0, none⟩) (k : Nat) n ∧ Hid (k = (R.take j).flatten.length) ∧ Hid (GW w n k S W)) (fun _ _ _ s17 _ => N - (intOf s17).toNat)
  case atStart => exact ⟨0, 0, rfl, Nat.zero_le _, rfl, hide rfl, HO⟩
  case round =>
    obtain ⟨j, k, rfl, hj, rfl, hk, hmm⟩ := hrel
    by_cases hlt : j < N
    · have hin : (j : Int) < (N : Int) := by omega
      obtain ⟨b3, o3, x3, y3, e3, hb3, c3j, r3⟩ := HR.out.at' j (by rw [HN.out]; exact hlt)
      subst e3
      have c3j := (Below.cell hmm.out.bel (by exact hb3)).trans c3j
      have HPJ := hide (fun (i : Nat) (hi : i < (R.getD j []).length) => HP.out j i hlt hi)
      have HFJ := hide (HFN.out j hlt)
      have R3 := hide r3
      have hq3 := r3.le
      have hq4 := r3.max
      unfold maxLen at hq4
      clear r3
      generalize R.getD j [] = Q at *
      obtain ⟨q, hq⟩ : ∃ q, Q.length = q := ⟨_, rfl⟩
      rw [hq] at HPJ HFJ R3 hq3 c3j
      have HQ := hide hq
      clear hq
      rw [← hk.out] at HPJ HFJ
      go_wp2
      go_loopw [7, 11, 23] (fun s7 s11 s23 W => ∃ i : Nat, s23 = .int .i64 (i : Int) ∧ i ≤ q ∧ s7 = .slice (some ⟨w.heap.size, 0, none⟩) (k + i : Nat) n ∧ Hid (GW w n (k + i) S W)) (fun _ _ s23 _ => q - (intOf s23).toNat)
      case atStart => exact ⟨0, rfl, Nat.zero_le _, rfl, hmm⟩
      case round =>
        clear hmm
        obtain ⟨i, rfl, hi, rfl, hmm⟩ := hrel
        by_cases hlt2 : i < q
        · have hin2 : (i : Int) < (q : Int) := by omega
          obtain ⟨p, hp1, hp2, hp3, hp4⟩ := HPJ.out i hlt2
          rw [HVl.out] at hp1
          obtain ⟨bx, ox, ex, hbx, hcx⟩ := R3.out.cells (by omega)
          subst ex
          have c5 := (Below.cell hmm.out.bel (by exact hbx)).trans (hcx i (by rw [HQ.out]; exact hlt2))
          rw [hp2] at c5
          obtain ⟨bl, ol, el, hbl, hcl⟩ := HL.out.cells (by omega)
          subst el
          obtain ⟨bv, ov, ev, hbv, hcv⟩ := HV.out.cells (by omega)
          subst ev
          have hpn : (p : Int) < (n : Int) := by omega
          have cl0 := hcl p (by rw [HLl.out]; exact hp1)
          have cv0 := hcv p (by rw [HVl.out]; exact hp1)
          have hcL : ∀ W, KO w W → W.cell? ⟨bl, ol + p, none⟩ = some (.int .i32 (l.getD p 0)) := fun W hk => (Below.cell hk (by exact hbl)).trans cl0
          have hcV : ∀ W, KO w W → W.cell? ⟨bv, ov + p, none⟩ = some (.int .i64 (lv.getD p 0)) := fun W hk => (Below.cell hk (by exact hbv)).trans cv0
          have hKd : KO w wr.drew := KO.drew hmm.out.bel
          have HG := hide (glyph_any (l.getD p 0) (lv.getD p 0) wr.drew (HWF.out p (by rw [HLl.out]; exact hp1)) (HMK.out.below hKd))
          have HP4 := hide hp4
          have hkn : k + i + 1 ≤ n := by have := HSn.out; omega
          have hK0 : KO w wr := hmm.out.bel
          clear hcx hcl hcv cl0 cv0 hp2 hp3 hp4
          generalize Mi.gl (l.getD p 0) (lv.getD p 0) = g at *
          generalize l.getD p 0 = x at *
          generalize lv.getD p 0 = y at *
          go_wp2
          refine wp_region_noPanic ?_
          go_region_held_law (fun w' => KO w w') (first | assumption | exact KO.alloc (by assumption) _)
            (first
              | (go_at_call 8; refine HG.out.mono ?_; rintro e w5 ⟨rfl, hk5⟩; have hk5' : KO w w5 := KO.on hKd hk5)
              | (refine step_append_spare _ rfl (.tmp 27) (.tmp 37) 25 rfl w.heap.size 21 ii Tryd.underlying25 HII.out HY1.out w.heap.size (k + i) n _ rfl ((owns_below (World.ownsRow.drew hmm.out.own) hk5).alloc _) .i32 _ 1 1 [g] rfl (row_lit .i32 w5 [g] 21 (by unfold maxLen; simp)) (by omega) ?_; intro w6 ho6 hb6; have hk6 : KO w w6 := Below.trans (KO.alloc hk5' _) hb6))
          all_goals (
            refine NoPanic.normal ?_
            go_simp
            have HM6 := hide (show GW w n (k + i + 1) S w6 from ⟨by rw [HP4.out, List.map_append]; exact ho6, hk6⟩)
            clear ho6 hb6 hk6 hk5 hk5' hKd hK0 hcL hcV c5
            go_wp2
            go_roundw
            case rel => exact ⟨i + 1, by go_num, by omega, by rw [Nat.add_assoc], HM6⟩
            case measure => simp [intOf]; omega)
        · obtain rfl : q = i := by omega
          have hne2 : ¬ (q : Int) < (q : Int) := by omega
          go_wp2
          go_roundw
          case rel => exact ⟨j + 1, k + q, by go_num, by omega, rfl, hide HFJ.out.symm, hmm⟩
          case measure => simp [intOf]; omega
    · obtain rfl : N = j := by omega
      have hne : ¬ (N : Int) < (N : Int) := by omega
      have HKM : Hid (k = m) := hide (by rw [hk.out, HFL.out])
      have HM := hide (show wr.ownsRow w.heap.size 21 1 (.slice (some ⟨w.heap.size, 0, none⟩) k n) m (S.map (Value.int .i32)) from by
        have := hmm.out.own
        rw [HKM.out, ← HMS.out, List.take_length] at this
        rw [HKM.out, ← HMS.out]
        exact this)
      have HB := hide hmm.out.bel
      clear hmm hk
      go_wp2
      go_ret
      exact ⟨_, rfl, HM.out, HB.out⟩
end Go.Proofs.YtchpdokjalbpnaaDoor
