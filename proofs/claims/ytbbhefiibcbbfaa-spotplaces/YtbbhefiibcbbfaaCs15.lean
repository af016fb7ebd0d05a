/- Spots, by contract. -/
import Derived.Test.YtbbhefiibcbbfaaCy15
import Derived.Test.YtbbhefiibcbbfaaCg15
import Derived.Test.YtbbhefiibcbbfaaOz13
namespace Go.Proofs.Ytbbhefiibcbbfaa
open Go.RowKit
set_option linter.unusedVariables false
set_option maxHeartbeats 1600000
set_option maxRecDepth 100000
namespace Spt
/-- The spots of the first k stops. -/
def S1 (a : List Int) (k : Nat) : List (Int × Int) := (List.range a.length).map fun i => if Od.sn a i = true ∧ co a i < (k : Int) then (co a i, 1 - 2 * (a.getD i 0 % 2)) else (0, 0)
theorem S1_len (a : List Int) (k : Nat) : (S1 a k).length = a.length := by simp [S1]
theorem S1_zero {a : List Int} (hf : Od.Fo a) : S1 a 0 = List.replicate a.length (0, 0) := List.ext_getElem (by simp [S1]) fun i h1 h2 => by
  simp only [S1, List.getElem_map, List.getElem_range, List.getElem_replicate]
  rw [if_neg]
  rintro ⟨q1, q2⟩
  obtain ⟨c, _, _, e⟩ := co_seen hf q1
  omega
theorem S1_set {a : List Int} (hf : Od.Fo a) {k : Nat} (hk : k < (Od.OD a).length) : (S1 a k).set ((Od.OD a).getD k 0) ((k : Int), 1 - 2 * (a.getD ((Od.OD a).getD k 0) 0 % 2)) = S1 a (k + 1) := by
  have hs := ((Od.OD_vis hf).mem _).1 (Od.OD_in hk)
  have hc := co_at hf hk
  refine List.ext_getElem (by simp [S1]) fun i h1 h2 => ?_
  rw [List.getElem_set]
  simp only [S1, List.getElem_map, List.getElem_range]
  by_cases h : (Od.OD a).getD k 0 = i
  · rw [if_pos h, ← h, hc, if_pos ⟨hs, by omega⟩]
  · rw [if_neg h]
    by_cases q : Od.sn a i = true
    · obtain ⟨c, e1, e2, e3⟩ := co_seen hf q
      have hne : ¬ c = k := fun e => h (by rw [← e]; exact e2)
      by_cases hlt : co a i < (k : Int)
      · rw [if_pos ⟨q, hlt⟩, if_pos ⟨q, by omega⟩]
      · rw [if_neg (fun z => hlt z.2), if_neg (fun z => by have := z.2; omega)]
    · rw [if_neg (fun z => q z.1), if_neg (fun z => q z.1)]
/-- The spots of all stops, and of the places from p on. -/
def S2 (a : List Int) (p : Nat) : List (Int × Int) := (List.range a.length).map fun i => if p ≤ i ∨ Od.sn a i = true then sp a i else (0, 0)
theorem S2_len (a : List Int) (k : Nat) : (S2 a k).length = a.length := by simp [S2]
theorem sp_seen {a : List Int} (he : End a) {i : Nat} (hs : Od.sn a i = true) : sp a i = (co a i, 1 - 2 * (a.getD i 0 % 2)) := by
  have h := Od.sn_at hs
  have := (nx_self he h.1).2 h.2
  unfold sp ln
  rw [this, if_pos rfl]
theorem S1_S2 {a : List Int} (hf : Od.Fo a) (he : End a) {n : Nat} (hn : a.length = n + 1) : S1 a (Od.OD a).length = S2 a n := by
  refine List.ext_getElem (by simp [S1, S2]) fun i h1 h2 => ?_
  rw [S1_len] at h1
  simp only [S1, S2, List.getElem_map, List.getElem_range]
  have hl : n ≤ i → Od.sn a i = true := fun h => by
    have e : i = a.length - 1 := by omega
    rw [e]
    exact Od.sn_of he.2 (by omega)
  by_cases q : Od.sn a i = true
  · obtain ⟨c, e1, e2, e3⟩ := co_seen hf q
    rw [if_pos ⟨q, by omega⟩, if_pos (.inr q), sp_seen he q]
  · rw [if_neg (fun z => q z.1), if_neg (fun z => z.elim (fun h => q (hl h)) q)]
theorem S2_end (a : List Int) : S2 a 0 = SP a := by
  unfold S2 SP
  refine List.map_congr_left fun i hi => ?_
  rw [if_pos (.inl (Nat.zero_le _))]
theorem S2_keep {a : List Int} {p : Nat} (h : Od.sn a p = true) : S2 a (p + 1) = S2 a p := by
  unfold S2
  refine List.map_congr_left fun i hi => ?_
  by_cases e : i = p
  · subst e; rw [if_pos (.inr h), if_pos (.inr h)]
  · by_cases q : p + 1 ≤ i ∨ Od.sn a i = true
    · rw [if_pos q, if_pos (q.imp (by omega) id)]
    · rw [if_neg q, if_neg (fun z => q (z.imp (by omega) id))]
theorem sp_skip {a : List Int} (he : End a) {p : Nat} (hp : p + 1 < a.length) (h : a.getD p 0 < 0) : sp a p = ((sp a (p + 1)).1, 0) := by
  obtain ⟨h1, h2, h3, h4⟩ := nx_ok he hp
  have e : nx a p = nx a (p + 1) := nx_unique he (by omega) (by omega) (Od.sn_at h3).2 fun j g1 g2 => by
    by_cases q : j = p
    · subst q; exact h
    · exact h4 j (by omega) g2
  unfold sp ln
  rw [e, if_neg (by omega)]
theorem S2_at {a : List Int} {p i : Nat} (h : i < a.length) (hp : p ≤ i) : (S2 a p).getD i (0, 0) = sp a i := by simp [S2, List.getD, h, hp]
theorem S2_set {a : List Int} (he : End a) {p : Nat} (hp : p + 1 < a.length) (h : a.getD p 0 < 0) : (S2 a (p + 1)).set p (((S2 a (p + 1)).getD (p + 1) (0, 0)).1, 0) = S2 a p := by
  rw [S2_at hp (Nat.le_refl _), ← sp_skip he hp h]
  refine List.ext_getElem (by simp [S2]) fun i h1 h2 => ?_
  rw [List.getElem_set]
  simp only [S2, List.getElem_map, List.getElem_range]
  by_cases e : p = i
  · subst e; rw [if_pos rfl, if_pos (.inl (Nat.le_refl _))]
  · rw [if_neg e]
    by_cases q : p + 1 ≤ i ∨ Od.sn a i = true
    · rw [if_pos q, if_pos (q.imp (by omega) id)]
    · rw [if_neg q, if_neg (fun z => q (z.imp (by omega) id))]
end Spt
theorem lean_any (lv : Int) (w : World) (h0 : 0 ≤ lv) (h1 : lv ≤ 127) : Calls Try.prog 20 #[.int .i64 lv] w fun e w' => e = .returned (.float .f64 (Fl.fb (1 - 2 * (lv % 2)))) ∧ w = w' := by
  have e : Fl.fb (1 - 2 * (lv % 2)) = floatOfInt .f64 (1 - 2 * (lv % 2)) := rfl
  rw [e]
  clear e
  obtain ⟨q, hq⟩ : ∃ q, lv % 2 = q := ⟨_, rfl⟩
  have hq1 : 0 ≤ q := by omega
  have hq2 : q ≤ 1 := by omega
  rw [hq]
  go_enter Try.func20, Try.ntmps20
  go_wp2
  go_ret
  exact ⟨rfl, rfl⟩
/-- What Spots answers. -/
def SPA (l : List Int) (b : Int) (Z : List (Int × Int)) (E : Int) : Prop := (((b = 0 ∨ b = 1) ∧ Od.Fo l) ∧ Z = Spt.SP (Spt.al l b) ∧ E = 0) ∨ (¬ ((b = 0 ∨ b = 1) ∧ Od.Fo l) ∧ Z = [] ∧ E = 2)
theorem SPA_some (l : List Int) (b : Int) : ∃ Z E, SPA l b Z E := by
  by_cases h : (b = 0 ∨ b = 1) ∧ Od.Fo l
  · exact ⟨_, _, .inl ⟨h, rfl, rfl⟩⟩
  · exact ⟨_, _, .inr ⟨h, rfl, rfl⟩⟩
theorem spots_ok (ao : Option Addr) (n cap : Nat) (l : List Int) (b : Int) (w : World) (h : Row .i64 w ao n cap l) (hb : b = 0 ∨ b = 1) (hf : Od.Fo l) (hn : n * 8 ≤ 140737488351232) :
    Calls Try.prog 10 #[.slice ao n cap, .int .i64 b] w fun e w' => ∃ g, e = .returned (.tuple #[.slice (some ⟨g, 0, none⟩) (n + 1) (n + 1), .int .i64 0]) ∧ ZR w' (some ⟨g, 0, none⟩) (n + 1) (n + 1) (Spt.SP (Spt.al l b)) ∧ KO w w' := by
  have hl := h.len
  have hfa := (Spt.al_fo hb).2 hf
  have hea := Spt.al_endE (l := l) hb
  have hal : (Spt.al l b).length = n + 1 := by rw [Spt.al_len, hl]
  have hAT : ∀ i, i < n → (Spt.al l b).getD i 0 = l.getD i 0 := fun i hi => Spt.al_at (by omega)
  obtain ⟨a, ha⟩ : ∃ a, Spt.al l b = a := ⟨_, rfl⟩
  have hcat : l ++ [b] = a := ha
  rw [ha] at hfa hea hal hAT ⊢
  have ka : KO w (w.alloc (.cells #[.int .i64 b] 3)) := KO.alloc (KO.refl w) _
  have hs1 : (w.alloc (.cells #[.int .i64 b] 3)).heap.size = w.heap.size + 1 := by simp
  have hrb := row_lit .i64 w [b] 3 (by unfold maxLen; simp)
  obtain ⟨w1, hw1⟩ : ∃ w1, w.alloc (.cells #[.int .i64 b] 3) = w1 := ⟨_, rfl⟩
  have hw1' : w.alloc (.cells (#[Value.int .i64 b]) 3) = w1 := hw1
  rw [hw1] at ka hs1
  have hrb1 : Row .i64 w1 (some ⟨w.heap.size, 0, none⟩) 1 1 [b] := by rw [← hw1]; exact hrb
  have kb : KO w1 (w1.alloc (.cells #[.slice ao n cap, .slice (some ⟨w.heap.size, 0, none⟩) 1 1] 22)) := KO.alloc (KO.refl w1) _
  have c0 : (w1.alloc (.cells #[.slice ao n cap, .slice (some ⟨w.heap.size, 0, none⟩) 1 1] 22)).cell? ⟨w1.heap.size, 0, none⟩ = some (.slice ao n cap) := by rw [World.cell?_alloc_mark]; rfl
  have c1 : (w1.alloc (.cells #[.slice ao n cap, .slice (some ⟨w.heap.size, 0, none⟩) 1 1] 22)).cell? ⟨w1.heap.size, 1, none⟩ = some (.slice (some ⟨w.heap.size, 0, none⟩) 1 1) := by rw [World.cell?_alloc_mark]; rfl
  have hs2 : (w1.alloc (.cells #[.slice ao n cap, .slice (some ⟨w.heap.size, 0, none⟩) 1 1] 22)).heap.size = w1.heap.size + 1 := by simp
  obtain ⟨w2, hw2⟩ : ∃ w2, w1.alloc (.cells #[.slice ao n cap, .slice (some ⟨w.heap.size, 0, none⟩) 1 1] 22) = w2 := ⟨_, rfl⟩
  rw [hw2] at kb c0 c1 hs2
  have HC := hide (concat2_any w1.heap.size ao (some ⟨w.heap.size, 0, none⟩) n 1 cap 1 l [b] w2 (by omega) c0 c1 ((h.below ka).below kb) (hrb1.below kb) (by omega) (by omega) (by omega) (by omega))
  rw [hcat] at HC
  have HK2 := hide (KO.on ka kb)
  have HFA := hide hfa
  have HEA := hide hea
  have HAL := hide hal
  have HL := hide hl
  have HAT := hide hAT
  have H0 := hide h
  have HO := hide (fun (x : Option Addr) (c : Nat) (W : World) (hr : Row .i64 W x (n + 1) c a) => order_ok x (n + 1) c a W hr hfa (by omega))
  have HML : Hid ((Od.OD a).length ≤ n + 1) := hide (by have := Od.K_le a; rw [Od.OD_len]; omega)
  have HBD : Hid (∀ i, i < n + 1 → -1 ≤ a.getD i 0 ∧ a.getD i 0 ≤ 127) := hide fun i hi => hfa i (by omega)
  obtain ⟨ii, hii, hy0, hy1, hy2⟩ := info_parts infoC
  have HII : Hid (Try.prog.info? 38 = some ii) := hii
  have HY0 := hide hy0
  have HY1 := hide hy1
  have HY2 := hide hy2
  have hb0 : ¬ b < 0 := by omega
  have hb1 : ¬ 1 < b := by omega
  clear hfa hea hal hAT hl hf hb h ka kb c0 c1 hs1 hs2 hrb hrb1 hcat ha hii hy0 hy1 hy2 hw1'
  go_enter Try.func10, Try.ntmps10
  go_wp2_with (go_at_call 18; refine HC.out.mono ?_; rintro e w3 ⟨x3, c3, rfl, ho3, hk3⟩)
  have hr3 : Row .i64 w3 x3 (n + 1) c3 a := by
    obtain ⟨y, d, e, hr⟩ := row_of_owns ho3
    simp only [Value.slice.injEq] at e
    obtain ⟨rfl, _, rfl⟩ := e
    exact hr
  have HO3 := hide (HO.out _ _ _ hr3)
  have R3 := hide hr3
  have K3 := hide (KO.on HK2.out hk3)
  clear hr3 hk3 ho3 HO HC hw1 hw2 HK2
  refine HO3.out.mono ?_
  rintro e w4 ⟨v4, rfl, ho4, hk4⟩
  obtain ⟨x4, c4, ev, hr4⟩ := row_of_owns ho4
  subst ev
  have R4 := hide hr4
  have K4 := hide (KO.on K3.out hk4)
  have R3' := hide (R3.out.below hk4)
  clear hr4 hk4 ho4 HO3 K3 R3
  obtain ⟨m, hm⟩ : ∃ m, (Od.OD a).length = m := ⟨_, rfl⟩
  have HM := hide hm
  rw [hm] at R4 HML ⊢
  clear hm
  have hmn : m ≤ n + 1 := HML.out
  have hn2 : n ≤ 17592186044416 := by omega
  go_wp2_with (at_make; refine wpList_make_full _ rfl _ _ 24 rfl w4.heap.size 38 ii (.complex .f64 0 0) 1 Try.underlying24 HII.out HY0.out HY1.out _ _ _ _ (n + 1) (by first | rfl | go_num) (by first | rfl | go_num) rfl rfl ?b2 ?b3 (Nat.le_refl _) ?_)
  case b2 => rw [HY2.out]; omega
  case b3 => unfold maxLen; omega
  intro w5 hown hgrow
  have hbel := (Below.refl w4.heap.size w4).grown hgrow (Nat.le_refl _) (fun _ h => by cases h)
  have HV : Hid (VN (cv Fl.fb) (0, 0) 38 w4 (n + 1) (Spt.S1 a 0) w5) := hide (by
    rw [Spt.S1_zero HFA.out, HAL.out]
    exact VN.made (f := cv Fl.fb) (z := (0, 0)) (by rw [show cv Fl.fb (0, 0) = Value.complex .f64 0 0 from by unfold cv; rw [Fl.fb_zero]]; exact hown) hbel)
  clear hown hgrow hbel
  go_wp2
  go_loopw [37] (fun s37 W => ∃ k : Nat, s37 = .int .i64 (k : Int) ∧ k ≤ m ∧ Hid (VN (cv Fl.fb) (0, 0) 38 w4 (n + 1) (Spt.S1 a k) W)) (fun s37 _ => m - (intOf s37).toNat)
  case atStart => exact ⟨0, rfl, Nat.zero_le _, HV⟩
  case round =>
    clear HV
    obtain ⟨k, rfl, hk, hv⟩ := hrel
    by_cases hlt : k < m
    · have hin : (k : Int) < (m : Int) := by omega
      obtain ⟨b4, o4, rfl, hb4, hc4⟩ := R4.out.cells (by omega)
      obtain ⟨b3, o3, rfl, hb3, hc3⟩ := R3'.out.cells (by omega)
      have hkm : k < (Od.OD a).length := by rw [HM.out]; exact hlt
      have ck := (Below.cell hv.out.bel (by exact hb4)).trans (hc4 k (by rw [Od.ON_len]; exact hkm))
      rw [Od.ON_at hkm] at ck
      have hset := hv.out.set ((Od.OD a).getD k 0) ((k : Int), 1 - 2 * (a.getD ((Od.OD a).getD k 0) 0 % 2))
      rw [Spt.S1_set HFA.out hkm] at hset
      have hpl := Od.OD_lt HFA.out (Od.OD_in hkm)
      rw [HAL.out] at hpl
      have hsn := (Od.sn_at (((Od.OD_vis HFA.out).mem _).1 (Od.OD_in hkm))).2
      generalize (Od.OD a).getD k 0 = p at *
      have hpi : (p : Int) < ((n + 1 : Nat) : Int) := by omega
      have hpi2 : (p : Int) < (n : Int) + 1 := by omega
      have cp := (Below.cell hv.out.bel (by exact hb3)).trans (hc3 p (by rw [HAL.out]; exact hpl))
      have HLN := hide (lean_any (a.getD p 0) wr hsn (HBD.out p hpl).2)
      have co := hv.out.cell hpl
      have fo := hv.out.fz p
      unfold cv at hset co
      have hcv : floatOfInt .f64 (k : Int) = Fl.fb (k : Int) := rfl
      generalize Fl.fb (1 - 2 * (a.getD p 0 % 2)) = Y at *
      generalize a.getD p 0 = ap at *
      generalize Fl.fb (k : Int) = X at *
      generalize Fl.fb ((Spt.S1 a k).getD p (0, 0)).1 = X0 at *
      generalize Fl.fb ((Spt.S1 a k).getD p (0, 0)).2 = Y0 at *
      have HS := hide hset
      have hst := store_complex (P := Try.prog) co fo .f64 X Y
      clear hv hset hc3 hc4 hkm hsn
      go_wp2_with (go_at_call 20; refine HLN.out.mono ?_; rintro e w' ⟨rfl, rfl⟩)
      go_roundw
      case rel => exact ⟨k + 1, by go_num, by omega, HS⟩
      case measure => simp [intOf]; omega
    · obtain rfl : m = k := by omega
      have hne : ¬ (m : Int) < (m : Int) := by omega
      have HV2 : Hid (VN (cv Fl.fb) (0, 0) 38 w4 (n + 1) (Spt.S2 a n) wr) := hide (by
        have := hv.out
        rw [← HM.out, Spt.S1_S2 HFA.out HEA.out HAL.out] at this
        exact this)
      clear hv
      go_wp2
      go_loopw [12] (fun s12 W => ∃ (p : Nat) (z : Int), s12 = .int .i64 z ∧ Hid (z = (p : Int) - 1) ∧ p ≤ n ∧ Hid (VN (cv Fl.fb) (0, 0) 38 w4 (n + 1) (Spt.S2 a p) W)) (fun s12 _ => (intOf s12 + 1).toNat)
      case atStart => exact ⟨n, _, rfl, hide rfl, Nat.le_refl _, HV2⟩
      case round =>
        clear HV2
        obtain ⟨p, z, rfl, hz, hp, hv⟩ := hrel
        cases p with
        | zero =>
          obtain rfl : z = -1 := by have := hz.out; omega
          have hzn : ¬ (0 : Int) ≤ -1 := by omega
          have HE := hide (show ZR wr (some ⟨w4.heap.size, 0, none⟩) (n + 1) (n + 1) (Spt.SP a) from by
            have := hv.out.row
            rw [Spt.S2_end] at this
            exact this)
          have HB := hide (KO.on K4.out hv.out.bel)
          clear hv
          go_wp2
          go_ret2
          exact ⟨_, rfl, HE.out, HB.out⟩
        | succ q =>
          obtain rfl : z = (q : Int) := by have := hz.out; omega
          have hzn : (0 : Int) ≤ (q : Int) := by omega
          have hqn : (q : Int) < (n : Int) := by omega
          have hqn2 : (q : Int) + 1 < (n : Int) + 1 := by omega
          have hqn3 : (q : Int) < (n : Int) + 1 := by omega
          obtain ⟨bl, ol, rfl, hbl, hcl⟩ := H0.out.cells (by omega)
          have cl := (Below.cell (KO.on K4.out hv.out.bel) (by exact hbl)).trans (hcl q (by rw [HL.out]; omega))
          rw [← HAT.out q (by omega)] at cl
          have hbd := HBD.out q (by omega)
          by_cases hun : a.getD q 0 = -1
          · rw [hun] at cl
            have hset := hv.out.set q (((Spt.S2 a (q + 1)).getD (q + 1) (0, 0)).1, 0)
            rw [Spt.S2_set HEA.out (by rw [HAL.out]; omega) (by rw [hun]; decide)] at hset
            have c1 := hv.out.cell (show q + 1 < n + 1 by omega)
            have co := hv.out.cell (show q < n + 1 by omega)
            have fo := hv.out.fz q
            unfold cv at hset co c1
            simp only [Fl.fb_zero] at hset
            generalize Fl.fb ((Spt.S2 a (q + 1)).getD (q + 1) (0, 0)).1 = X at *
            generalize Fl.fb ((Spt.S2 a (q + 1)).getD (q + 1) (0, 0)).2 = Y at *
            generalize Fl.fb ((Spt.S2 a (q + 1)).getD q (0, 0)).1 = X0 at *
            generalize Fl.fb ((Spt.S2 a (q + 1)).getD q (0, 0)).2 = Y0 at *
            have HS := hide hset
            have hst := store_complex (P := Try.prog) co fo .f64 X 0
            clear hv hset hcl hun hbd
            go_wp2
            go_roundw
            case rel => exact ⟨q, _, rfl, hide rfl, by omega, HS⟩
            case measure => simp [intOf]
          · have hs : Od.sn a q = true := Od.sn_of (by omega) (by rw [HAL.out]; omega)
            have HS : Hid (VN (cv Fl.fb) (0, 0) 38 w4 (n + 1) (Spt.S2 a q) wr) := hide (by rw [← Spt.S2_keep hs]; exact hv.out)
            have hub : (a.getD q 0 == -1) = false := beq_eq_false_iff_ne.2 hun
            generalize a.getD q 0 = y at *
            clear hv hcl hbd hs
            go_wp2
            go_roundw
            case rel => exact ⟨q, _, rfl, hide rfl, by omega, HS⟩
            case measure => simp [intOf]
theorem spots_any (ao : Option Addr) (n cap : Nat) (l : List Int) (b : Int) (w : World) (h : Row .i64 w ao n cap l) (hn : n * 8 ≤ 140737488351232) (Z : List (Int × Int)) (E : Int) (hA : SPA l b Z E) :
    Calls Try.prog 10 #[.slice ao n cap, .int .i64 b] w fun e w' => ∃ x c, e = .returned (.tuple #[.slice x Z.length c, .int .i64 E]) ∧ ZR w' x Z.length c Z ∧ KO w w' := by
  rcases hA with ⟨⟨hb, hf⟩, rfl, rfl⟩ | ⟨hno, rfl, rfl⟩
  · refine (spots_ok ao n cap l b w h hb hf hn).mono ?_
    rintro e w' ⟨g, rfl, hz, hk⟩
    have e : (Spt.SP (Spt.al l b)).length = n + 1 := by rw [Spt.SP_len, Spt.al_len, h.len]
    rw [e]
    exact ⟨_, _, rfl, hz, hk⟩
  · by_cases h0 : b < 0
    · clear h hno
      go_enter Try.func10, Try.ntmps10
      go_wp2
      go_ret2
      exact ⟨none, 0, rfl, VR.none_ _, KO.refl _⟩
    by_cases h1 : 1 < b
    · clear h hno
      go_enter Try.func10, Try.ntmps10
      go_wp2
      go_ret2
      exact ⟨none, 0, rfl, VR.none_ _, KO.refl _⟩
    · have hb : b = 0 ∨ b = 1 := by omega
      have hf : ¬ Od.Fo l := fun q => hno ⟨hb, q⟩
      have hfa : ¬ Od.Fo (Spt.al l b) := fun q => hf ((Spt.al_fo hb).1 q)
      obtain ⟨a, ha⟩ : ∃ a, Spt.al l b = a := ⟨_, rfl⟩
      have hcat : l ++ [b] = a := ha
      rw [ha] at hfa
      have ka : KO w (w.alloc (.cells #[.int .i64 b] 3)) := KO.alloc (KO.refl w) _
      have hs1 : (w.alloc (.cells #[.int .i64 b] 3)).heap.size = w.heap.size + 1 := by simp
      have hrb := row_lit .i64 w [b] 3 (by unfold maxLen; simp)
      obtain ⟨w1, hw1⟩ : ∃ w1, w.alloc (.cells #[.int .i64 b] 3) = w1 := ⟨_, rfl⟩
      rw [hw1] at ka hs1
      have hrb1 : Row .i64 w1 (some ⟨w.heap.size, 0, none⟩) 1 1 [b] := by rw [← hw1]; exact hrb
      have kb : KO w1 (w1.alloc (.cells #[.slice ao n cap, .slice (some ⟨w.heap.size, 0, none⟩) 1 1] 22)) := KO.alloc (KO.refl w1) _
      have c0 : (w1.alloc (.cells #[.slice ao n cap, .slice (some ⟨w.heap.size, 0, none⟩) 1 1] 22)).cell? ⟨w1.heap.size, 0, none⟩ = some (.slice ao n cap) := by rw [World.cell?_alloc_mark]; rfl
      have c1 : (w1.alloc (.cells #[.slice ao n cap, .slice (some ⟨w.heap.size, 0, none⟩) 1 1] 22)).cell? ⟨w1.heap.size, 1, none⟩ = some (.slice (some ⟨w.heap.size, 0, none⟩) 1 1) := by rw [World.cell?_alloc_mark]; rfl
      have hs2 : (w1.alloc (.cells #[.slice ao n cap, .slice (some ⟨w.heap.size, 0, none⟩) 1 1] 22)).heap.size = w1.heap.size + 1 := by simp
      obtain ⟨w2, hw2⟩ : ∃ w2, w1.alloc (.cells #[.slice ao n cap, .slice (some ⟨w.heap.size, 0, none⟩) 1 1] 22) = w2 := ⟨_, rfl⟩
      rw [hw2] at kb c0 c1 hs2
      have HC := hide (concat2_any w1.heap.size ao (some ⟨w.heap.size, 0, none⟩) n 1 cap 1 l [b] w2 (by omega) c0 c1 ((h.below ka).below kb) (hrb1.below kb) (by omega) (by omega) (by omega) (by omega))
      rw [hcat] at HC
      have HK2 := hide (KO.on ka kb)
      have HO := hide (fun (x : Option Addr) (c : Nat) (W : World) (hr : Row .i64 W x (n + 1) c a) => order_bad x (n + 1) c a W hr hfa)
      have hb0 : ¬ b < 0 := by omega
      clear hfa hf hb hno h ka kb c0 c1 hs1 hs2 hrb hrb1 hcat ha
      go_enter Try.func10, Try.ntmps10
      go_wp2_with (go_at_call 18; refine HC.out.mono ?_; rintro e w3 ⟨x3, c3, rfl, ho3, hk3⟩)
      have hr3 : Row .i64 w3 x3 (n + 1) c3 a := by
        obtain ⟨y, d, e, hr⟩ := row_of_owns ho3
        simp only [Value.slice.injEq] at e
        obtain ⟨rfl, _, rfl⟩ := e
        exact hr
      have HO3 := hide (HO.out _ _ _ hr3)
      have K3 := hide (KO.on HK2.out hk3)
      clear hr3 hk3 ho3 HO HC hw1 hw2 HK2
      refine HO3.out.mono ?_
      rintro e w4 ⟨rfl, rfl⟩
      go_wp2
      go_ret2
      exact ⟨none, 0, rfl, VR.none_ _, K3.out⟩
/-- The columns of a line's spots are small. -/
theorem SP_wz {a : List Int} (hf : Od.Fo a) (he : Spt.End a) (B : Nat) (hB : a.length ≤ B) (h1 : 1 ≤ B) : Wz B (Spt.SP a) := by
  intro i
  by_cases hi : i < a.length
  · rw [Spt.SP_at a hi]
    obtain ⟨c, q1, q2, q3⟩ := Spt.col_range hf he hi
    have := Od.K_le a
    rw [← Od.OD_len] at this
    have hln := Spt.ln_cases a i
    refine ⟨by rw [q3]; omega, ?_⟩
    show (Spt.ln a i).natAbs ≤ 1
    omega
  · have : (Spt.SP a).getD i (0, 0) = (0, 0) := by
      have hl := Spt.SP_len a
      simp [List.getD, List.getElem?_eq_none (show (Spt.SP a).length ≤ i by omega)]
    rw [this]
    exact ⟨by show (0 : Int).natAbs < B; simp; omega, by show (0 : Int).natAbs ≤ 1; decide⟩
theorem SPA_wz {l : List Int} {b : Int} {Z : List (Int × Int)} {E : Int} (h : SPA l b Z E) (B : Nat) (hB : l.length + 1 ≤ B) : Wz B Z := by
  rcases h with ⟨⟨hb, hf⟩, rfl, _⟩ | ⟨_, rfl, _⟩
  · exact SP_wz ((Spt.al_fo hb).2 hf) (Spt.al_endE hb) B (by rw [Spt.al_len]; exact hB) (by omega)
  · intro i
    exact ⟨by show (0 : Int).natAbs < B; simp; omega, by show (0 : Int).natAbs ≤ 1; decide⟩
end Go.Proofs.Ytbbhefiibcbbfaa
