import Derived.Test.YtmdmehopefgndaaGreatDoorZ30
import Derived.Test.YtmdmehopefgndaaGreatDoorZ20
import Derived.Test.YtmdmehopefgndaaGreatDoorZ31
import Derived.Test.YtmdmehopefgndaaGreatDoorZ28
import Derived.Test.YtmdmehopefgndaaGreatDoorZ07
import Derived.Deep.RegionHeldLaw
import Derived.Deep.RegionHeld3
import Derived.WalkArith
import Derived.Test.YtmdmehopefgndaaGreatDoorZ26
import Derived.Test.YtmdmehopefgndaaGreatDoorZ29
import Derived.Test.YtmdmehopefgndaaGreatDoorZ21
import Derived.Test.YtmdmehopefgndaaGreatDoorZ19
/- Glyph and Show: the program's, by contract. -/
namespace Go.Proofs.YtmdmehopefgndaaGreatDoor
open Go.RowKit
set_option linter.unusedVariables false
set_option maxHeartbeats 1600000
set_option maxRecDepth 100000
theorem infoRune14 : (Tryz.prog.info? 21).map (fun i => (i.zero, i.size, i.bytes)) = some (some (.int .i32 0), 1, 4) := by kernel_rfl
theorem isOdd_any (lv : Int) (w : World) : Calls Tryz.prog 25 #[.int .i64 lv] w fun e w' => e = .returned (.bool (decide (0 ≤ lv ∧ lv % 2 = 1))) ∧ w = w' := by
  by_cases ho : 0 ≤ lv ∧ lv % 2 = 1
  · have ht : lv.tmod 2 = 1 := by rw [Int.tmod_eq_emod_of_nonneg ho.1]; exact ho.2
    rw [decide_eq_true ho]
    clear ho
    generalize hx : lv.tmod 2 = x at ht
    subst ht
    go_enter Tryz.func25, Tryz.ntmps25
    go_wp2
    go_ret
    exact ⟨rfl, rfl⟩
  · have ht : ¬ lv.tmod 2 = 1 := by
      intro q
      by_cases h0 : 0 ≤ lv
      · rw [Int.tmod_eq_emod_of_nonneg h0] at q
        exact ho ⟨h0, q⟩
      · have h1 := Int.neg_tmod (-lv) 2
        rw [Int.neg_neg, Int.tmod_eq_emod_of_nonneg (a := -lv) (by omega)] at h1
        omega
    have htb : (lv.tmod 2 == 1) = false := by simpa using ht
    rw [decide_eq_false ho]
    clear ho
    generalize hx : lv.tmod 2 = x at ht htb
    go_enter Tryz.func25, Tryz.ntmps25
    go_wp2
    go_ret
    exact ⟨rfl, rfl⟩
theorem glyph_any (r lv : Int) (w : World) (hr : (Lit.int .i32 r).wf = true) (hm : Marks w) :
    Calls Tryz.prog 10 #[.int .i32 r, .int .i64 lv] w fun e w' => e = .returned (.int .i32 (Mi.gl r lv)) ∧ KO w w' := by
  have HO := hide (isOdd_any lv w)
  have HM := hide (mirror_any r w hr hm)
  by_cases ho : 0 ≤ lv ∧ lv % 2 = 1
  · rw [decide_eq_true ho] at HO
    cases hb : (Ucd.mir r).2 with
    | true =>
      rw [hb, ← Mi.gl_yes ho hb] at HM
      clear ho hb hr hm
      generalize Mi.gl r lv = g at *
      go_enter Tryz.func10, Tryz.ntmps10
      go_wp2_with (first
        | (go_at_call 25; refine HO.out.mono ?_; rintro e w1 ⟨rfl, rfl⟩)
        | (go_at_call 26; refine HM.out.mono ?_; rintro e w1 ⟨rfl, hk1⟩; have HK := hide hk1; clear hk1))
      go_ret
      exact ⟨rfl, HK.out⟩
    | false =>
      rw [hb] at HM
      rw [Mi.gl_no hb]
      clear ho hb hr hm
      generalize (Ucd.mir r).1 = g at *
      go_enter Tryz.func10, Tryz.ntmps10
      go_wp2_with (first
        | (go_at_call 25; refine HO.out.mono ?_; rintro e w1 ⟨rfl, rfl⟩)
        | (go_at_call 26; refine HM.out.mono ?_; rintro e w1 ⟨rfl, hk1⟩; have HK := hide hk1; clear hk1))
      go_ret
      exact ⟨rfl, HK.out⟩
  · rw [decide_eq_false ho] at HO
    rw [Mi.gl_even ho]
    clear ho hr hm HM
    go_enter Tryz.func10, Tryz.ntmps10
    go_wp2_with (go_at_call 25; refine HO.out.mono ?_; rintro e w1 ⟨rfl, rfl⟩)
    go_ret
    exact ⟨rfl, KO.refl _⟩
namespace Mi
theorem flat_next (R : List (List Int)) {j : Nat} (h : j < R.length) : (R.take (j + 1)).flatten = (R.take j).flatten ++ R.getD j [] := by
  rw [List.take_succ_eq_append_getElem h, List.flatten_append]
  simp [List.getD, h]
theorem flat_rest (R : List (List Int)) (j : Nat) : R.flatten = (R.take j).flatten ++ (R.drop j).flatten := by rw [← List.flatten_append, List.take_append_drop]
theorem app_at (A Q B : List Int) {i : Nat} (hi : i < Q.length) : (A ++ (Q ++ B)).getD (A.length + i) 0 = Q.getD i 0 := by simp [List.getD, List.getElem?_append_right, List.getElem?_append_left hi]
theorem flat_at {R : List (List Int)} {j i : Nat} (h : j < R.length) (hi : i < (R.getD j []).length) : R.flatten.getD ((R.take j).flatten.length + i) 0 = (R.getD j []).getD i 0 := by
  rw [flat_rest R (j + 1), flat_next R h, List.append_assoc, app_at _ _ _ hi]
theorem flat_le (R : List (List Int)) (j : Nat) : (R.take j).flatten.length ≤ R.flatten.length := by
  rw [flat_rest R j, List.length_append]
  omega
/-- What is known of the i-th place of the j-th piece. -/
theorem piece_at {l lv : List Int} {R : List (List Int)} (hR : R.flatten = Od.ON lv) (hf : Od.Fo lv) {j i : Nat} (h : j < R.length) (hi : i < (R.getD j []).length) :
    ∃ p : Nat, p < lv.length ∧ (R.getD j []).getD i 0 = (p : Int) ∧ (R.take j).flatten.length + i < (SW l lv).length ∧ (SW l lv).take ((R.take j).flatten.length + i + 1) = (SW l lv).take ((R.take j).flatten.length + i) ++ [gl (l.getD p 0) (lv.getD p 0)] := by
  have h1 := flat_le R (j + 1)
  rw [flat_next R h, List.length_append, hR, Od.ON_len] at h1
  have hk : (R.take j).flatten.length + i < (Od.OD lv).length := by omega
  refine ⟨(Od.OD lv).getD ((R.take j).flatten.length + i) 0, Od.OD_lt hf (Od.OD_in hk), ?_, by rw [SW_len]; exact hk, SW_next hk⟩
  rw [← flat_at h hi, hR, Od.ON_at hk]
end Mi
/-- What is shown so far. -/
structure GW (w : World) (n k : Nat) (S : List Int) (wr : World) : Prop where
  own : wr.ownsRow w.heap.size 21 1 (.slice (some ⟨w.heap.size, 0, none⟩) k n) k ((S.take k).map (Value.int .i32))
  bel : KO w wr
theorem glyphs_any (al av ap : Option Addr) (n cl cv cp : Nat) (l lv : List Int) (R : List (List Int)) (w : World) (hl : Row .i32 w al n cl l) (hv : Row .i64 w av n cv lv) (hp : RL w ap cp R) (hR : R.flatten = Od.ON lv) (hf : Od.Fo lv) (hw : ∀ x ∈ l, (Lit.int .i32 x).wf = true) (hn : n * 4 ≤ 281474976710656) (hm : Marks w) :
    Calls Tryz.prog 20 #[.slice al n cl, .slice av n cv, .slice ap R.length cp] w fun e w' => ∃ v, e = .returned v ∧ w'.ownsRow w.heap.size 21 1 v (Mi.SW l lv).length ((Mi.SW l lv).map (Value.int .i32)) ∧ KO w w' := by
  have HP := hide (fun (j i : Nat) (h : j < R.length) (hi : i < (R.getD j []).length) => Mi.piece_at (l := l) hR hf h hi)
  have HFL : Hid ((R.take R.length).flatten.length = (Mi.SW l lv).length) := hide (by rw [List.take_length, hR, Od.ON_len, Mi.SW_len])
  have HFN := hide (fun (j : Nat) (h : j < R.length) => show (R.take (j + 1)).flatten.length = (R.take j).flatten.length + (R.getD j []).length from by rw [Mi.flat_next R h, List.length_append])
  have HSn : Hid ((Mi.SW l lv).length ≤ n) := hide (by rw [Mi.SW_len]; have := Od.K_le lv; rw [Od.OD_len]; rw [hv.len] at this; exact this)
  have HWF := hide (fun (p : Nat) (hp : p < l.length) => hw (l.getD p 0) (by simp [List.getD, hp]))
  have HL := hide hl
  have HV := hide hv
  have HLl := hide hl.len
  have HVl := hide hv.len
  have HR := hide hp
  have HMK := hide hm
  have hle := hp.le
  have hmax := hp.max
  obtain ⟨ii, hii, hy0, hy1, hy2⟩ := info_parts infoRune14
  have HII : Hid (Tryz.prog.info? 21 = some ii) := hii
  have HY0 := hide hy0
  have HY1 := hide hy1
  have HY2 := hide hy2
  clear hl hv hp hR hf hw hm hii hy0 hy1 hy2
  unfold maxLen at hmax
  obtain ⟨S, hS⟩ : ∃ S, Mi.SW l lv = S := ⟨_, rfl⟩
  rw [hS] at HFL HSn ⊢
  simp only [hS] at HP
  obtain ⟨m, hmS⟩ : ∃ m, S.length = m := ⟨_, rfl⟩
  rw [hmS] at HFL HSn ⊢
  simp only [hmS] at HP
  have HMS := hide hmS
  clear hS hmS
  obtain ⟨N, hN⟩ : ∃ N, R.length = N := ⟨_, rfl⟩
  rw [hN] at hle HFL HFN HP ⊢
  have HN := hide hN
  clear hN
  have hn2 : n ≤ 70368744177664 := by omega
  go_enter Tryz.func20, Tryz.ntmps20
  go_wp2_with (at_make; refine wpList_make_own _ rfl _ _ 28 rfl w.heap.size 21 ii (.int .i32 0) 1 Tryz.underlying28 HII.out HY0.out HY1.out _ _ _ n rfl rfl rfl ?b2 ?b3 (Nat.le_refl _) ?_)
  case b2 => rw [HY2.out]; omega
  case b3 => unfold maxLen; omega
  intro w1 hown hgrow
  have hbel := (Below.refl w.heap.size w).grown hgrow (Nat.le_refl _) (fun _ h => by cases h)
  have HO : Hid (GW w n 0 S w1) := hide ⟨by simpa using hown, hbel⟩
  clear hown hgrow hbel
  go_wp2
  go_loopw [7, 9, 11, 17] (fun s7 s9 s11 s17 W => ∃ j k : Nat, s17 = .int .i64 (j : Int) ∧ j ≤ N ∧ s7 = .slice (some ⟨w.heap.size, 0, none⟩) (k : Nat) n ∧ Hid (k = (R.take j).flatten.length) ∧ Hid (GW w n k S W)) (fun _ _ _ s17 _ => N - (intOf s17).toNat)
  case atStart => exact ⟨0, 0, rfl, Nat.zero_le _, rfl, hide rfl, HO⟩
  case round =>
    obtain ⟨j, k, rfl, hj, rfl, hk, hmm⟩ := hrel
    by_cases hlt : j < N
    · have hin : (j : Int) < (N : Int) := by omega
      obtain ⟨b3, o3, x3, y3, e3, hb3, c3j, r3⟩ := HR.out.at' j (by rw [HN.out]; exact hlt)
      subst e3
      have c3j := (Below.cell hmm.out.bel (by exact hb3)).trans c3j
      have HPJ := hide (fun (i : Nat) (hi : i < (R.getD j []).length) => HP.out j i hlt hi)
      have HFJ := hide (HFN.out j hlt)
      have R3 := hide r3
      have hq3 := r3.le
      have hq4 := r3.max
      unfold maxLen at hq4
      clear r3
      generalize R.getD j [] = Q at *
      obtain ⟨q, hq⟩ : ∃ q, Q.length = q := ⟨_, rfl⟩
      rw [hq] at HPJ HFJ R3 hq3 c3j
      have HQ := hide hq
      clear hq
      rw [← hk.out] at HPJ HFJ
      go_wp2
      go_loopw [7, 11, 23] (fun s7 s11 s23 W => ∃ i : Nat, s23 = .int .i64 (i : Int) ∧ i ≤ q ∧ s7 = .slice (some ⟨w.heap.size, 0, none⟩) (k + i : Nat) n ∧ Hid (GW w n (k + i) S W)) (fun _ _ s23 _ => q - (intOf s23).toNat)
      case atStart => exact ⟨0, rfl, Nat.zero_le _, rfl, hmm⟩
      case round =>
        clear hmm
        obtain ⟨i, rfl, hi, rfl, hmm⟩ := hrel
        by_cases hlt2 : i < q
        · have hin2 : (i : Int) < (q : Int) := by omega
          obtain ⟨p, hp1, hp2, hp3, hp4⟩ := HPJ.out i hlt2
          rw [HVl.out] at hp1
          obtain ⟨bx, ox, ex, hbx, hcx⟩ := R3.out.cells (by omega)
          subst ex
          have c5 := (Below.cell hmm.out.bel (by exact hbx)).trans (hcx i (by rw [HQ.out]; exact hlt2))
          rw [hp2] at c5
          obtain ⟨bl, ol, el, hbl, hcl⟩ := HL.out.cells (by omega)
          subst el
          obtain ⟨bv, ov, ev, hbv, hcv⟩ := HV.out.cells (by omega)
          subst ev
          have hpn : (p : Int) < (n : Int) := by omega
          have cl0 := hcl p (by rw [HLl.out]; exact hp1)
          have cv0 := hcv p (by rw [HVl.out]; exact hp1)
          have hcL : ∀ W, KO w W → W.cell? ⟨bl, ol + p, none⟩ = some (.int .i32 (l.getD p 0)) := fun W hk => (Below.cell hk (by exact hbl)).trans cl0
          have hcV : ∀ W, KO w W → W.cell? ⟨bv, ov + p, none⟩ = some (.int .i64 (lv.getD p 0)) := fun W hk => (Below.cell hk (by exact hbv)).trans cv0
          have hKd : KO w wr.drew := KO.drew hmm.out.bel
          have HG := hide (glyph_any (l.getD p 0) (lv.getD p 0) wr.drew (HWF.out p (by rw [HLl.out]; exact hp1)) (HMK.out.below hKd))
          have HP4 := hide hp4
          have hkn : k + i + 1 ≤ n := by have := HSn.out; omega
          have hK0 : KO w wr := hmm.out.bel
          clear hcx hcl hcv cl0 cv0 hp2 hp3 hp4
          generalize Mi.gl (l.getD p 0) (lv.getD p 0) = g at *
          generalize l.getD p 0 = x at *
          generalize lv.getD p 0 = y at *
          go_wp2
          refine wp_region_noPanic ?_
          go_region_held_law (fun w' => KO w w') (first | assumption | exact KO.alloc (by assumption) _)
            (first
              | (go_at_call 10; refine HG.out.mono ?_; rintro e w5 ⟨rfl, hk5⟩; have hk5' : KO w w5 := KO.on hKd hk5)
              | (refine step_append_spare _ rfl (.tmp 27) (.tmp 37) 28 rfl w.heap.size 21 ii Tryz.underlying28 HII.out HY1.out w.heap.size (k + i) n _ rfl ((owns_below (World.ownsRow.drew hmm.out.own) hk5).alloc _) .i32 _ 1 1 [g] rfl (row_lit .i32 w5 [g] 21 (by unfold maxLen; simp)) (by omega) ?_; intro w6 ho6 hb6; have hk6 : KO w w6 := Below.trans (KO.alloc hk5' _) hb6))
          all_goals (
            refine NoPanic.normal ?_
            go_simp
            have HM6 := hide (show GW w n (k + i + 1) S w6 from ⟨by rw [HP4.out, List.map_append]; exact ho6, hk6⟩)
            clear ho6 hb6 hk6 hk5 hk5' hKd hK0 hcL hcV c5
            go_wp2
            go_roundw
            case rel => exact ⟨i + 1, by go_num, by omega, by rw [Nat.add_assoc], HM6⟩
            case measure => simp [intOf]; omega)
        · obtain rfl : q = i := by omega
          have hne2 : ¬ (q : Int) < (q : Int) := by omega
          go_wp2
          go_roundw
          case rel => exact ⟨j + 1, k + q, by go_num, by omega, rfl, hide HFJ.out.symm, hmm⟩
          case measure => simp [intOf]; omega
    · obtain rfl : N = j := by omega
      have hne : ¬ (N : Int) < (N : Int) := by omega
      have HKM : Hid (k = m) := hide (by rw [hk.out, HFL.out])
      have HM := hide (show wr.ownsRow w.heap.size 21 1 (.slice (some ⟨w.heap.size, 0, none⟩) k n) m (S.map (Value.int .i32)) from by
        have := hmm.out.own
        rw [HKM.out, ← HMS.out, List.take_length] at this
        rw [HKM.out, ← HMS.out]
        exact this)
      have HB := hide hmm.out.bel
      clear hmm hk
      go_wp2
      go_ret
      exact ⟨_, rfl, HM.out, HB.out⟩
end Go.Proofs.YtmdmehopefgndaaGreatDoor

/- Show, by contract; the chapter's examples. -/
namespace Go.Proofs.YtmdmehopefgndaaGreatDoor
open Go.RowKit
set_option linter.unusedVariables false
set_option maxHeartbeats 1600000
set_option maxRecDepth 100000
theorem row_any32 {w : World} {base n : Nat} {v : Value} {zs : List Int} (h : w.ownsRow base 21 1 v n (zs.map (Value.int .i32))) : ∃ a c, v = .slice a zs.length c ∧ Row .i32 w a zs.length c zs := by
  have hl : zs.length = n := by have := h.1; simpa using this
  subst hl
  exact row_of_owns h
/-- What Show answers. -/
def SHA (l lv S : List Int) (E : Int) : Prop := (l.length = lv.length ∧ Od.Fo lv ∧ S = Mi.SW l lv ∧ E = 0) ∨ (¬ (l.length = lv.length ∧ Od.Fo lv) ∧ S = [] ∧ E = 2)
theorem SHA_some (l lv : List Int) : ∃ S E, SHA l lv S E := by
  by_cases h : l.length = lv.length ∧ Od.Fo lv
  · exact ⟨_, _, .inl ⟨h.1, h.2, rfl, rfl⟩⟩
  · exact ⟨_, _, .inr ⟨h, rfl, rfl⟩⟩
theorem show_any (al av : Option Addr) (n m cl cv : Nat) (l lv : List Int) (w : World) (hl : Row .i32 w al n cl l) (hv : Row .i64 w av m cv lv) (hw : ∀ x ∈ l, (Lit.int .i32 x).wf = true) (hn : n * 4 ≤ 281474976710656) (hm : m * 8 ≤ 281474976702464) (K : Nat) (hK : (Od.RR lv).length ≤ K) (hKN : K * 24 ≤ 140737488355328) (hM : Marks w) (S : List Int) (E : Int) (hA : SHA l lv S E) :
    Calls Tryz.prog 8 #[.slice al n cl, .slice av m cv] w fun e w' => ∃ a c, e = .returned (.tuple #[.slice a S.length c, .int .i64 E]) ∧ Row .i32 w' a S.length c S ∧ KO w w' := by
  have hll := hl.len
  have hvl := hv.len
  by_cases hnm : n = m
  · subst hnm
    have hnn : ((n : Int) != (n : Int)) = false := by simp
    by_cases hf : Od.Fo lv
    · rcases hA with ⟨_, _, hS, hE⟩ | ⟨h, _⟩
      · subst hE
        have HR := hide (runs_ok av n cv lv w hv hf hm K hK hKN)
        have HG := hide (fun (a : Option Addr) (c : Nat) (w' : World) (hp : RL w' a c (Od.RR lv)) (hk : KO w w') => glyphs_any al av a n cl cv c l lv (Od.RR lv) w' (hl.below hk) (hv.below hk) hp (Od.RR_flat lv) hf hw hn (hM.below hk))
        rw [← hS] at HG
        clear hS hl hv hw hM hf hll hvl hK
        generalize Od.RR lv = R at *
        obtain ⟨N, hN⟩ : ∃ N, R.length = N := ⟨_, rfl⟩
        rw [hN] at HR HG
        clear hN
        go_enter Tryz.func8, Tryz.ntmps8
        go_wp2_with (first
          | (go_at_call 19; refine HR.out.mono ?_; rintro e w1 ⟨a, c, rfl, hr1, hk1⟩; have HG1 := hide (HG.out a c w1 hr1 hk1); have HK1 := hide hk1; clear hr1 hk1)
          | (go_at_call 20; refine HG1.out.mono ?_; rintro e w2 ⟨v, rfl, ho2, hk2⟩; obtain ⟨a2, c2, ev, hr2⟩ := row_any32 ho2; subst ev; have HR2 := hide hr2; have HK2 := hide (KO.on HK1.out hk2); clear ho2 hk2 hr2))
        go_ret2
        exact ⟨a2, c2, rfl, HR2.out, HK2.out⟩
      · exact absurd ⟨by rw [hll, hvl], hf⟩ h
    · rcases hA with ⟨_, h, _⟩ | ⟨_, rfl, rfl⟩
      · exact absurd h hf
      · have HR := hide (runs_bad av n cv lv w hv hf)
        clear hl hv hw hM hf hll hvl
        go_enter Tryz.func8, Tryz.ntmps8
        go_wp2_with (go_at_call 19; refine HR.out.mono ?_; rintro e w1 ⟨rfl, rfl⟩)
        go_ret2
        exact ⟨none, 0, rfl, row_nil _ _, KO.refl _⟩
  · have hnn : ((n : Int) != (m : Int)) = true := bne_iff_ne.2 (by omega)
    rcases hA with ⟨h, _⟩ | ⟨_, rfl, rfl⟩
    · exact absurd (by rw [← hll, ← hvl]; exact h) hnm
    · clear hl hv hw hM hll hvl
      go_enter Tryz.func8, Tryz.ntmps8
      go_wp2
      go_ret2
      exact ⟨none, 0, rfl, row_nil _ _, KO.refl _⟩
theorem RR_le (lv : List Int) : (Od.RR lv).length ≤ lv.length := Nat.le_trans (Od.rows_le lv _ _) (by rw [Od.OD_len]; exact Od.K_le lv)
theorem SW_wf {l lv : List Int} (hf : Od.Fo lv) (hl : l.length = lv.length) (hw : ∀ x ∈ l, (Lit.int .i32 x).wf = true) : ∀ x ∈ Mi.SW l lv, (Lit.int .i32 x).wf = true := by
  intro x hx
  unfold Mi.SW at hx
  obtain ⟨i, hi, rfl⟩ := List.mem_map.1 hx
  have h1 := Od.OD_lt hf hi
  have h2 := bounds_i32 (hw (l.getD i 0) (by simp [List.getD, show i < l.length by omega]))
  exact WalkArith.wf_i32 (Mi.gl_ok (by omega))
end Go.Proofs.YtmdmehopefgndaaGreatDoor

/- A paragraph as one line, and what is shown of it: mathematics. -/
namespace Go.Proofs.YtmdmehopefgndaaGreatDoor
open Go.RowKit
set_option linter.unusedVariables false
/-- The levels of a paragraph as one line. -/
def TL (l L : List Int) (m : Int) : List Int := Od.LI (Rn.cl l) L m 0 l.length
theorem TL_len (l L : List Int) (m : Int) : (TL l L m).length = l.length := by unfold TL; rw [Od.LI_len]; omega
structure TF (l L : List Int) (m : Int) : Prop where
  two : m = 0 ∨ m = 1
  len : L.length = l.length
  fo : Od.Fo L
  seps : Od.Seps (Rn.cl l) L
  fx : Od.Fo (TL l L m)
theorem sep_rm {x : Int} (h : Od.sep x = true) : Ex.rm x = false := by
  rcases Od.sep_iff.1 h with rfl | rfl <;> rfl
theorem top_facts {l : List Int} {base m : Int} {L : List Int} (h : Rn.PA l base m L 0) : TF l L m := by
  obtain ⟨h2, _, hl, hL, hF, _⟩ := Rn.PA_again h
  have hat : ∀ i, i < l.length → -1 ≤ L.getD i 0 ∧ L.getD i 0 ≤ 126 ∧ (Od.sep ((Rn.cl l).getD i 0) = true → 0 ≤ L.getD i 0) := by
    intro i hi
    have hc := Rn.VS_cases h2 hF hi
    rw [← hL, ← Rn.cl_at l hi] at hc
    rcases hc with ⟨q1, q2, _⟩ | ⟨q1, q2⟩ | ⟨q1, _, q2, q3⟩
    · refine ⟨by omega, by omega, fun q => ?_⟩
      rw [sep_rm q] at q1
      cases q1
    · refine ⟨by omega, by omega, fun _ => by omega⟩
    · refine ⟨by omega, by omega, fun _ => by omega⟩
  refine ⟨h2, hl, fun i hi => ?_, fun i hi => ?_, fun i hi => ?_⟩
  · have := hat i (by omega)
    omega
  · have := hat i (by omega)
    exact ⟨this.1, this.2.2⟩
  · rw [TL_len] at hi
    unfold TL
    rw [Od.LI_at (by omega), Nat.zero_add]
    have := hat i hi
    unfold Od.li
    split <;> omega
theorem mid_all (l : List Int) {n : Nat} (h : l.length = n) : mid l 0 n = l := by
  subst h
  unfold mid
  simp
theorem TL_line {l L : List Int} {m : Int} (h : TF l L m) {n : Nat} (hn : l.length = n) : Od.LX (mid (Rn.cl l) 0 n) (mid L 0 n) m (n - 0) 0 = TL l L m := by
  subst hn
  exact Od.line_same h.seps (by rw [h.len]; omega)
/-- What is answered of a line, and what is shown of it. -/
def TA (l : List Int) (base m : Int) (X S : List Int) (E : Int) : Prop := ∃ L, Rn.PA l base m L E ∧ ((E = 0 ∧ X = TL l L m ∧ S = Mi.SW l X) ∨ (¬ E = 0 ∧ X = [] ∧ S = []))
theorem TA_some (l : List Int) (base : Int) : ∃ m X S E, TA l base m X S E := by
  obtain ⟨m, L, E, h⟩ := Rn.PA_some l base
  by_cases hE : E = 0
  · exact ⟨m, _, _, E, L, h, .inl ⟨hE, rfl, rfl⟩⟩
  · exact ⟨m, _, _, E, L, h, .inr ⟨hE, rfl, rfl⟩⟩
theorem TA_show {l : List Int} {base m : Int} {X S : List Int} (h : TA l base m X S 0) : X.length = l.length ∧ Od.Fo X ∧ SHA l X S 0 := by
  obtain ⟨L, hA, ⟨_, hX, hS⟩ | ⟨h0, _⟩⟩ := h
  · have hf := top_facts hA
    have hl : X.length = l.length := by rw [hX, TL_len]
    have hx : Od.Fo X := by rw [hX]; exact hf.fx
    exact ⟨hl, hx, .inl ⟨hl.symm, hx, hS, rfl⟩⟩
  · exact absurd rfl h0
theorem TA_wf {l : List Int} {base m : Int} {X S : List Int} (h : TA l base m X S 0) (hw : ∀ x ∈ l, (Lit.int .i32 x).wf = true) : ∀ x ∈ S, (Lit.int .i32 x).wf = true := by
  have h1 := TA_show h
  rcases h1.2.2 with ⟨_, _, hS, _⟩ | ⟨_, _, h0⟩
  · rw [hS]
    exact SW_wf h1.2.1 h1.1.symm hw
  · cases h0
theorem TA_no {l : List Int} {base m : Int} {X S : List Int} {E : Int} (h : TA l base m X S E) (hE : ¬ E = 0) : m = 0 ∧ X = [] ∧ S = [] := by
  obtain ⟨L, hA, ⟨h0, _⟩ | ⟨_, hX, hS⟩⟩ := h
  · exact absurd h0 hE
  · rcases Rn.PA_err hA with ⟨h0, _⟩ | ⟨_, hm, _⟩
    · exact absurd h0 hE
    · exact ⟨hm, hX, hS⟩
end Go.Proofs.YtmdmehopefgndaaGreatDoor

/- A new row that a call makes and fills place by place: of whatever integers. -/
namespace Go.Proofs.YtmdmehopefgndaaGreatDoor
open Go.RowKit
set_option linter.unusedVariables false
set_option maxHeartbeats 1000000
set_option maxRecDepth 100000
/-- The first k of n places have their values, the others 0. -/
def FL (f : Nat → Int) (n k : Nat) : List Int := (List.range n).map fun i => if i < k then f i else 0
theorem FL_len (f : Nat → Int) (n k : Nat) : (FL f n k).length = n := by simp [FL]
theorem FL_zero (f : Nat → Int) (n : Nat) : FL f n 0 = List.replicate n 0 := by
  refine List.ext_getElem (by simp [FL]) fun i h1 h2 => ?_
  simp [FL]
theorem FL_set (f : Nat → Int) (n k : Nat) : (FL f n k).set k (f k) = FL f n (k + 1) := by
  refine List.ext_getElem (by simp [FL]) fun i h1 h2 => ?_
  simp only [List.length_set, FL_len] at h1
  rw [List.getElem_set]
  simp only [FL, List.getElem_map, List.getElem_range]
  by_cases h : k = i
  · subst h; simp
  · rw [if_neg h]
    by_cases hlt : i < k
    · rw [if_pos hlt, if_pos (by omega)]
    · rw [if_neg hlt, if_neg (by omega)]
theorem FL_end (f : Nat → Int) (n : Nat) : FL f n n = (List.range n).map f := by
  unfold FL
  refine List.map_congr_left fun i hi => ?_
  rw [if_pos (List.mem_range.1 hi)]
/-- A row at the first new block. -/
structure NR (k : IntKind) (e : TypeId) (w : World) (n : Nat) (zs : List Int) (wr : World) : Prop where
  own : wr.ownsRow w.heap.size e 1 (.slice (some ⟨w.heap.size, 0, none⟩) n n) n (zs.map (Value.int k))
  bel : Below w.heap.size w wr
section
variable {k : IntKind} {e : TypeId} {w wr : World} {n : Nat} {zs : List Int}
theorem NR.set (h : NR k e w n zs wr) (j : Nat) (y : Int) : NR k e w n (zs.set j y) (wr.setCell ⟨w.heap.size, j, none⟩ (.int k y)) :=
  ⟨owns_set h.own j y, h.bel.setCell (p := ⟨w.heap.size, j, none⟩) (Nat.le_refl _) _⟩
theorem NR.keep (h : NR k e w n zs wr) {w2 : World} (hb : KO wr w2) : NR k e w n zs w2 := ⟨owns_below h.own hb, KO.on h.bel hb⟩
theorem NR.drewN (h : NR k e w n zs wr) (q : Nat) : NR k e w n zs (wr.drewN q) := h.keep (below_drewN wr q)
theorem NR.cell (h : NR k e w n zs wr) {j : Nat} (hj : j < n) : wr.cell? ⟨w.heap.size, j, none⟩ = some (.int k (zs.getD j 0)) := owns_cell h.own j hj
theorem NR.fz (h : NR k e w n zs wr) (j : Nat) : wr.frozen? ⟨w.heap.size, j, none⟩ = false := h.own.frozenAt j
theorem NR.row (h : NR k e w n zs wr) : Row k wr (some ⟨w.heap.size, 0, none⟩) n n zs := by
  obtain ⟨ao, c, e1, hr⟩ := row_of_owns h.own
  simp only [Value.slice.injEq] at e1
  obtain ⟨rfl, _, rfl⟩ := e1
  exact hr
/-- As make leaves it. -/
theorem NR.made (hown : wr.ownsRow w.heap.size e 1 (.slice (some ⟨w.heap.size, 0, none⟩) n n) n (madeCells #[.int k 0] n).toList) (hb : Below w.heap.size w wr) (f : Nat → Int) : NR k e w n (FL f n 0) wr := by
  refine ⟨?_, hb⟩
  have e2 : (madeCells #[Value.int k 0] n).toList = (FL f n 0).map (Value.int k) := by
    rw [FL_zero]
    simp [toList_madeCells_one]
  rw [← e2]
  exact hown
end
end Go.Proofs.YtmdmehopefgndaaGreatDoor

/- Classes; what stands at some places of a list. -/
namespace Go.Proofs.YtmdmehopefgndaaGreatDoor
open Go.RowKit
set_option linter.unusedVariables false
set_option maxHeartbeats 1000000
set_option maxRecDepth 100000
theorem infoRune12 : (Tryz.prog.info? 21).map (fun i => (i.zero, i.size, i.bytes)) = some (some (.int .i32 0), 1, 4) := by kernel_rfl
theorem wf_at {k : IntKind} {l : List Int} (h : ∀ x ∈ l, (Lit.int k x).wf = true) {i : Nat} (hi : i < l.length) : (Lit.int k (l.getD i 0)).wf = true := by
  rw [show l.getD i 0 = l[i] from by simp [List.getD, hi]]
  exact h _ (List.getElem_mem _)
theorem FL_cl (l : List Int) : FL (fun i => Ucd.cls (l.getD i 0)) l.length l.length = Rn.cl l := by
  rw [FL_end]
  refine List.ext_getElem (by simp [Rn.cl]) fun i h1 h2 => ?_
  simp only [List.length_map, List.length_range] at h1
  simp [Rn.cl, List.getD, h1]
theorem FL_pk (t : List Int) (ps : List Nat) : FL (fun i => t.getD (ps.getD i 0) 0) ps.length ps.length = Rn.pk t ps := by
  rw [FL_end]
  refine List.ext_getElem (by simp [Rn.pk]) fun i h1 h2 => ?_
  simp only [List.length_map, List.length_range] at h1
  simp [Rn.pk, List.getD, h1]
theorem classes_any (ao : Option Addr) (n cap : Nat) (l : List Int) (w : World) (h : Row .i32 w ao n cap l) (hf : ∀ x ∈ l, (Lit.int .i32 x).wf = true) (hn : n * 8 ≤ 140737488351232) :
    Calls Tryz.prog 18 #[.slice ao n cap] w fun e w' => e = .returned (.slice (some ⟨w.heap.size, 0, none⟩) n n) ∧ NR .i64 3 w n (Rn.cl l) w' := by
  obtain ⟨ii, hii, hy0, hy1, hy2⟩ := info_parts infoInt
  have HII : Hid (Tryz.prog.info? 3 = some ii) := hii
  have HY0 := hide hy0
  have HY1 := hide hy1
  have HY2 := hide hy2
  have H := hide h
  have HL := hide h.len
  have HF := hide hf
  have HE := hide (FL_cl l)
  have hn2 : n ≤ 17592186044416 := by omega
  clear h hf hii hy0 hy1 hy2
  go_enter Tryz.func18, Tryz.ntmps18
  go_wp2_with (at_make; refine wpList_make_full _ rfl _ _ 27 rfl w.heap.size 3 ii (.int .i64 0) 1 Tryz.underlying27 HII.out HY0.out HY1.out _ _ _ _ n rfl rfl rfl rfl ?b2 ?b3 (Nat.le_refl _) ?_)
  case b2 => rw [HY2.out]; omega
  case b3 => unfold maxLen; omega
  intro w1 hown hgrow
  have hbel := (Below.refl w.heap.size w).grown hgrow (Nat.le_refl _) (fun _ h => by cases h)
  have HO : Hid (NR .i64 3 w n (FL (fun i => Ucd.cls (l.getD i 0)) n 0) w1) := NR.made (by simpa using hown) hbel _
  clear hown hgrow hbel
  go_wp2
  go_loopw [4, 5, 11] (fun s4 s5 s11 wr => ∃ k : Nat, k ≤ n ∧ s11 = .int .i64 (k : Int) ∧ Hid (NR .i64 3 w n (FL (fun i => Ucd.cls (l.getD i 0)) n k) wr)) (fun _ _ s11 _ => n - (intOf s11).toNat)
  case atStart => exact ⟨0, Nat.zero_le _, rfl, HO⟩
  case round =>
    obtain ⟨k, hk, rfl, hm⟩ := hrel
    by_cases hlt : k < n
    · have hkl : k < l.length := by rw [HL.out]; exact hlt
      obtain ⟨b, off, rfl, hbl, hc⟩ := H.out.cells (by omega)
      have ck : wr.cell? ⟨b, off + k, none⟩ = some (.int .i32 (l.getD k 0)) := (hm.out.bel.cell (by exact hbl)).trans (hc k hkl)
      have HC := hide (class_any (l.getD k 0) wr (wf_at HF.out hkl))
      have HS := hide (FL_set (fun i => Ucd.cls (l.getD i 0)) n k)
      have hin : (k : Int) < (n : Int) := by omega
      clear hc
      generalize hF : FL (fun i => Ucd.cls (l.getD i 0)) n k = F at *
      generalize hx : l.getD k 0 = x at *
      clear hF hx
      go_wp2_with fail
      refine HC.out.mono ?_
      rintro e w2 ⟨rfl, hb2⟩
      have hm2 := hm.out.keep hb2
      have co := hm2.cell hlt
      have hfz := hm2.fz k
      have HM2 := hide (hm2.set k (Ucd.cls x))
      rw [HS.out] at HM2
      generalize Ucd.cls x = y at *
      clear hm2 hb2 HC
      go_wp2
      go_roundw
      case rel => exact ⟨k + 1, by omega, by go_num, HM2⟩
      case measure => simp [intOf]; omega
    · obtain rfl : k = n := by omega
      have hne : ¬ ((k : Int) < (k : Int)) := by omega
      have HM := hide (show NR .i64 3 w k (Rn.cl l) wr from by
        have := hm.out
        rw [← HL.out, HE.out, HL.out] at this
        exact this)
      clear hm
      go_wp2
      go_ret
      exact ⟨rfl, HM.out⟩
theorem zs_len (ps : List Nat) : (Rn.zs ps).length = ps.length := by simp [Rn.zs]
theorem zs_at (ps : List Nat) {i : Nat} (hi : i < ps.length) : (Rn.zs ps).getD i 0 = (ps.getD i 0 : Int) := by simp [Rn.zs, List.getD, hi]
theorem pickr_any (ao ap : Option Addr) (n cap np cp : Nat) (l : List Int) (ps : List Nat) (w : World) (h : Row .i32 w ao n cap l) (hp : Row .i64 w ap np cp (Rn.zs ps)) (hlt : ∀ i ∈ ps, i < n) (hn : np ≤ 100000) :
    Calls Tryz.prog 40 #[.slice ao n cap, .slice ap np cp] w fun e w' => e = .returned (.slice (some ⟨w.heap.size, 0, none⟩) np np) ∧ NR .i32 21 w np (Rn.pk l ps) w' := by
  obtain ⟨ii, hii, hy0, hy1, hy2⟩ := info_parts infoRune12
  have HII : Hid (Tryz.prog.info? 21 = some ii) := hii
  have HY0 := hide hy0
  have HY1 := hide hy1
  have HY2 := hide hy2
  have hnp : ps.length = np := by have := hp.len; rw [zs_len] at this; exact this
  have H := hide h
  have HP := hide hp
  have HL := hide h.len
  have HNP := hide hnp
  have HLT := hide hlt
  have HE := hide (FL_pk l ps)
  clear h hp hlt hnp hii hy0 hy1 hy2
  go_enter Tryz.func40, Tryz.ntmps40
  go_wp2_with (at_make; refine wpList_make_full _ rfl _ _ 28 rfl w.heap.size 21 ii (.int .i32 0) 1 Tryz.underlying28 HII.out HY0.out HY1.out _ _ _ _ np rfl rfl rfl rfl ?b2 ?b3 (Nat.le_refl _) ?_)
  case b2 => rw [HY2.out]; omega
  case b3 => unfold maxLen; omega
  intro w1 hown hgrow
  have hbel := (Below.refl w.heap.size w).grown hgrow (Nat.le_refl _) (fun _ h => by cases h)
  have HO : Hid (NR .i32 21 w np (FL (fun i => l.getD (ps.getD i 0) 0) np 0) w1) := NR.made (by simpa using hown) hbel _
  clear hown hgrow hbel
  go_wp2
  go_loopw [6, 7, 13] (fun s6 s7 s13 wr => ∃ k : Nat, k ≤ np ∧ s13 = .int .i64 (k : Int) ∧ Hid (NR .i32 21 w np (FL (fun i => l.getD (ps.getD i 0) 0) np k) wr)) (fun _ _ s13 _ => np - (intOf s13).toNat)
  case atStart => exact ⟨0, Nat.zero_le _, rfl, HO⟩
  case round =>
    obtain ⟨k, hk, rfl, hm⟩ := hrel
    by_cases hlt : k < np
    · have hkl : k < ps.length := by rw [HNP.out]; exact hlt
      have hpl : ps.getD k 0 < n := HLT.out _ (Rn.getD_mem hkl)
      obtain ⟨b, off, rfl, hbl, hc⟩ := H.out.cells (by omega)
      obtain ⟨bp, op, rfl, hbp, hcp⟩ := HP.out.cells (by omega)
      have ck : wr.cell? ⟨bp, op + k, none⟩ = some (.int .i64 (ps.getD k 0 : Int)) := by
        have := (hm.out.bel.cell (by exact hbp)).trans (hcp k (by rw [zs_len]; exact hkl))
        rw [zs_at ps hkl] at this
        exact this
      have cl : wr.cell? ⟨b, off + ps.getD k 0, none⟩ = some (.int .i32 (l.getD (ps.getD k 0) 0)) := (hm.out.bel.cell (by exact hbl)).trans (hc _ (by rw [HL.out]; exact hpl))
      have HS := hide (FL_set (fun i => l.getD (ps.getD i 0) 0) np k)
      have hin : (k : Int) < (np : Int) := by omega
      have hin2 : ((ps.getD k 0 : Nat) : Int) < (n : Int) := by omega
      have co := hm.out.cell hlt
      have hfz := hm.out.fz k
      have HM2 := hide (hm.out.set k (l.getD (ps.getD k 0) 0))
      rw [HS.out] at HM2
      clear hc hcp hm HS
      generalize l.getD (ps.getD k 0) 0 = y at *
      generalize ps.getD k 0 = j at *
      generalize (FL (fun i => l.getD (ps.getD i 0) 0) np k).getD k 0 = y0 at *
      go_wp2
      go_roundw
      case rel => exact ⟨k + 1, by omega, by go_num, HM2⟩
      case measure => simp [intOf]; omega
    · obtain rfl : k = np := by omega
      have hne : ¬ ((k : Int) < (k : Int)) := by omega
      have HM := hide (show NR .i32 21 w k (Rn.pk l ps) wr from by
        have := hm.out
        rw [← HNP.out, HE.out, HNP.out] at this
        exact this)
      clear hm
      go_wp2
      go_ret
      exact ⟨rfl, HM.out⟩
theorem picki_any (ao ap : Option Addr) (n cap np cp : Nat) (l : List Int) (ps : List Nat) (w : World) (h : Row .i64 w ao n cap l) (hp : Row .i64 w ap np cp (Rn.zs ps)) (hlt : ∀ i ∈ ps, i < n) (hn : np ≤ 100000) :
    Calls Tryz.prog 41 #[.slice ao n cap, .slice ap np cp] w fun e w' => e = .returned (.slice (some ⟨w.heap.size, 0, none⟩) np np) ∧ NR .i64 3 w np (Rn.pk l ps) w' := by
  obtain ⟨ii, hii, hy0, hy1, hy2⟩ := info_parts infoInt
  have HII : Hid (Tryz.prog.info? 3 = some ii) := hii
  have HY0 := hide hy0
  have HY1 := hide hy1
  have HY2 := hide hy2
  have hnp : ps.length = np := by have := hp.len; rw [zs_len] at this; exact this
  have H := hide h
  have HP := hide hp
  have HL := hide h.len
  have HNP := hide hnp
  have HLT := hide hlt
  have HE := hide (FL_pk l ps)
  clear h hp hlt hnp hii hy0 hy1 hy2
  go_enter Tryz.func41, Tryz.ntmps41
  go_wp2_with (at_make; refine wpList_make_full _ rfl _ _ 27 rfl w.heap.size 3 ii (.int .i64 0) 1 Tryz.underlying27 HII.out HY0.out HY1.out _ _ _ _ np rfl rfl rfl rfl ?b2 ?b3 (Nat.le_refl _) ?_)
  case b2 => rw [HY2.out]; omega
  case b3 => unfold maxLen; omega
  intro w1 hown hgrow
  have hbel := (Below.refl w.heap.size w).grown hgrow (Nat.le_refl _) (fun _ h => by cases h)
  have HO : Hid (NR .i64 3 w np (FL (fun i => l.getD (ps.getD i 0) 0) np 0) w1) := NR.made (by simpa using hown) hbel _
  clear hown hgrow hbel
  go_wp2
  go_loopw [6, 7, 13] (fun s6 s7 s13 wr => ∃ k : Nat, k ≤ np ∧ s13 = .int .i64 (k : Int) ∧ Hid (NR .i64 3 w np (FL (fun i => l.getD (ps.getD i 0) 0) np k) wr)) (fun _ _ s13 _ => np - (intOf s13).toNat)
  case atStart => exact ⟨0, Nat.zero_le _, rfl, HO⟩
  case round =>
    obtain ⟨k, hk, rfl, hm⟩ := hrel
    by_cases hlt : k < np
    · have hkl : k < ps.length := by rw [HNP.out]; exact hlt
      have hpl : ps.getD k 0 < n := HLT.out _ (Rn.getD_mem hkl)
      obtain ⟨b, off, rfl, hbl, hc⟩ := H.out.cells (by omega)
      obtain ⟨bp, op, rfl, hbp, hcp⟩ := HP.out.cells (by omega)
      have ck : wr.cell? ⟨bp, op + k, none⟩ = some (.int .i64 (ps.getD k 0 : Int)) := by
        have := (hm.out.bel.cell (by exact hbp)).trans (hcp k (by rw [zs_len]; exact hkl))
        rw [zs_at ps hkl] at this
        exact this
      have cl : wr.cell? ⟨b, off + ps.getD k 0, none⟩ = some (.int .i64 (l.getD (ps.getD k 0) 0)) := (hm.out.bel.cell (by exact hbl)).trans (hc _ (by rw [HL.out]; exact hpl))
      have HS := hide (FL_set (fun i => l.getD (ps.getD i 0) 0) np k)
      have hin : (k : Int) < (np : Int) := by omega
      have hin2 : ((ps.getD k 0 : Nat) : Int) < (n : Int) := by omega
      have co := hm.out.cell hlt
      have hfz := hm.out.fz k
      have HM2 := hide (hm.out.set k (l.getD (ps.getD k 0) 0))
      rw [HS.out] at HM2
      clear hc hcp hm HS
      generalize l.getD (ps.getD k 0) 0 = y at *
      generalize ps.getD k 0 = j at *
      generalize (FL (fun i => l.getD (ps.getD i 0) 0) np k).getD k 0 = y0 at *
      go_wp2
      go_roundw
      case rel => exact ⟨k + 1, by omega, by go_num, HM2⟩
      case measure => simp [intOf]; omega
    · obtain rfl : k = np := by omega
      have hne : ¬ ((k : Int) < (k : Int)) := by omega
      have HM := hide (show NR .i64 3 w k (Rn.pk l ps) wr from by
        have := hm.out
        rw [← HNP.out, HE.out, HNP.out] at this
        exact this)
      clear hm
      go_wp2
      go_ret
      exact ⟨rfl, HM.out⟩
end Go.Proofs.YtmdmehopefgndaaGreatDoor
