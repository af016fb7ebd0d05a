/- SpotLeans: in a line of one parity steps to the one side are steps onward. -/
import Derived.Test.YtbbhefiibcbbfaaWorks15
import Derived.Test.YtbbhefiibcbbfaaNew
namespace Go.Proofs.Ytbbhefiibcbbfaa
open Go.RowKit
set_option linter.unusedVariables false
set_option maxHeartbeats 1600000
set_option maxRecDepth 100000
namespace Spt
/-- From each place a step onward leads to the next one. -/
def ON1 (Z : List (Int × Int)) (n : Nat) (s : Int) : Prop := (∀ i : Nat, i < n → ST Z (i : Int) s = ((i : Int) + 1, 0)) ∧ ST Z (n : Int) s = (0, 150)
theorem leans {a : List Int} (hf : Od.Fo a) (he : End a) {n : Nat} (hn : a.length = n + 1) {b : Int} (hb : b = 0 ∨ b = 1) (h : ∀ i, i < a.length → 0 ≤ a.getD i 0 ∧ a.getD i 0 % 2 = b) : ON1 (SP a) n (if b = 1 then -1 else 1) := by
  have hnx : ∀ i, i < a.length → nx a i = i := fun i hi => (nx_self he hi).2 (h i hi).1
  rcases hb with rfl | rfl
  · have hO := OD_evens hf h
    have hL : (Od.OD a).length = n + 1 := by rw [hO, List.length_range, hn]
    have hA : ∀ c, c < n + 1 → (Od.OD a).getD c 0 = c := fun c hc => by rw [hO]; simp [List.getD, hn, hc]
    have hC : ∀ i, i < n + 1 → (sp a i).1 = (i : Int) := fun i hi => by
      obtain ⟨c, h1, h2, h3⟩ := col_range hf he (show i < a.length by omega)
      rw [hnx i (by omega), hA c (by omega)] at h2
      rw [h3, h2]
    rw [if_neg (by decide)]
    constructor
    · intro i hi
      rw [(ST_SP hf he (show i < a.length by omega) (hC i (by omega)) (by omega)).1, if_pos (by omega), if_pos (by omega), hA (i + 1) (by omega)]
      rfl
    · rw [(ST_SP hf he (show n < a.length by omega) (hC n (by omega)) (by omega)).1, if_neg (by omega), if_neg (by omega)]
  · have hO := OD_odds hf h
    have hL : (Od.OD a).length = n + 1 := by rw [hO, List.length_reverse, List.length_range, hn]
    have hA : ∀ c, c < n + 1 → (Od.OD a).getD c 0 = n - c := fun c hc => by
      rw [hO, hn]
      simp [List.getD, hc]
    have hC : ∀ i, i < n + 1 → ∃ c : Nat, c < n + 1 ∧ c + i = n ∧ (sp a i).1 = (c : Int) := fun i hi => by
      obtain ⟨c, h1, h2, h3⟩ := col_range hf he (show i < a.length by omega)
      rw [hnx i (by omega), hA c (by omega)] at h2
      exact ⟨c, by omega, by omega, h3⟩
    rw [if_pos rfl]
    clear hO h
    constructor
    · intro i hi
      obtain ⟨c, c1, c2, c3⟩ := hC i (by omega)
      have h9 := (ST_SP hf he (show i < a.length by omega) c3 (by omega)).2
      have hc : 0 < c := by omega
      rw [if_pos hc, if_pos hc, hA (c - 1) (by omega)] at h9
      rw [h9]
      exact Prod.ext (show ((n - (c - 1) : Nat) : Int) = (i : Int) + 1 by omega) rfl
    · obtain ⟨c, c1, c2, c3⟩ := hC n (by omega)
      have h9 := (ST_SP hf he (show n < a.length by omega) c3 (by omega)).2
      have hc : ¬ 0 < c := by omega
      rw [if_neg hc, if_neg hc] at h9
      exact h9
end Spt
theorem SpotLeans_walk (w : World) (x : Int) (hx : (Lit.int .i64 x).wf = true) (y : Int) (hy : (Lit.int .i64 y).wf = true) :
    Calls Try.prog 8 #[.int .i64 x, .int .i64 y] w fun e w' => e = .returned (.bool true) ∧ Below w.heap.size w w' := by
  have HW := hide (works15_any w)
  obtain ⟨n, hn, en⟩ := place_at x 301 (by omega) (by omega)
  have en1 : wrap64 ((IntKind.u64.wrap x).tmod 301) = (n : Int) := en
  obtain ⟨q, hq, eq'⟩ := place_at y 126 (by omega) (by omega)
  have eq1 : wrap64 ((IntKind.u64.wrap y).tmod 126) = (q : Int) := eq'
  obtain ⟨ii, hii, hy0, hy1, hy2⟩ := info_parts infoInt
  have HII : Hid (Try.prog.info? 3 = some ii) := hii
  have HY0 := hide hy0
  have HY1 := hide hy1
  have HY2 := hide hy2
  have hfo : Od.Fo (List.replicate n (q : Int)) := by
    intro i hi
    rw [List.length_replicate] at hi
    simp [List.getD, hi]
    omega
  obtain ⟨lv, hlv⟩ : ∃ lv, List.replicate n (q : Int) = lv := ⟨_, rfl⟩
  have hll : lv.length = n := by rw [← hlv]; simp
  obtain ⟨b, hb⟩ : ∃ b, (q : Int) % 2 = b := ⟨_, rfl⟩
  have hb01 : b = 0 ∨ b = 1 := by omega
  have hAL : ∀ i, i < (Spt.al lv b).length → 0 ≤ (Spt.al lv b).getD i 0 ∧ (Spt.al lv b).getD i 0 % 2 = b := fun i hi => by
    rw [Spt.al_len] at hi
    by_cases h : i < lv.length
    · rw [Spt.al_at h, ← hlv]
      simp [List.getD, show i < n by omega]
      omega
    · obtain rfl : i = lv.length := by omega
      rw [Spt.al_end]
      omega
  have hfa : Od.Fo lv := by rw [← hlv]; exact hfo
  have hON := Spt.leans ((Spt.al_fo hb01).2 hfa) (Spt.al_endE hb01) (n := n) (by rw [Spt.al_len, hll]) hb01 hAL
  have hSA : SPA lv b (Spt.SP (Spt.al lv b)) 0 := .inl ⟨⟨hb01, hfa⟩, rfl, rfl⟩
  have hwz := SPA_wz hSA 302 (by omega)
  have hZl : (Spt.SP (Spt.al lv b)).length = n + 1 := by rw [Spt.SP_len, Spt.al_len, hll]
  have HA := hide (fun (x : Option Addr) (c : Nat) (W : World) (h : Row .i64 W x n c lv) => spots_any x n c lv b W h (by omega) _ 0 hSA)
  have HFL : Hid (FL (fun _ => (q : Int)) n n = lv) := hide (by rw [FL_end, ← hlv, List.map_const', List.length_range])
  generalize Spt.SP (Spt.al lv b) = Z at *
  rw [hZl] at HA
  have HST := hide (fun (i s : Int) (x : Option Addr) (c : Nat) (W : World) (h : ZR W x (n + 1) c Z) => step_any Z i s 302 (by omega) hwz x (n + 1) c W h)
  clear hAL hfa hSA hwz hZl hlv hll hx hy en eq' hii hy0 hy1 hy2 hfo
  have hnn : ((n : Int) + 1 != (n : Int) + 1) = false := by simp
  rcases hb01 with rfl | rfl
  · rw [if_neg (by decide)] at hON
    have HON := hide hON
    clear hON
    go_enter Try.func8, Try.ntmps8
    go_wp2_with fail
    refine HW.out.mono ?_
    rintro e w1 ⟨rfl, hk1⟩
    have K1 := hide hk1
    clear hk1 HW
    go_wp2_with (at_make; refine wpList_make_full _ rfl _ _ 22 rfl w1.heap.size 3 ii (.int .i64 0) 1 Try.underlying22 HII.out HY0.out HY1.out _ _ _ _ n rfl rfl en1 en1 ?b2 ?b3 (Nat.le_refl _) ?_)
    case b2 => rw [HY2.out]; omega
    case b3 => unfold maxLen; omega
    intro w2 hown hgrow
    have hbel := (Below.refl w1.heap.size w1).grown hgrow (Nat.le_refl _) (fun _ h => by cases h)
    have HN2 := hide (NR.made hown hbel (fun _ => (q : Int)))
    clear hown hgrow hbel
    go_wp2
    go_loopw [34] (fun s34 W => ∃ k : Nat, s34 = .int .i64 (k : Int) ∧ k ≤ n ∧ Hid (NR .i64 3 w1 n (FL (fun _ => (q : Int)) n k) W)) (fun s34 _ => n - (intOf s34).toNat)
    case atStart => exact ⟨0, rfl, Nat.zero_le _, HN2⟩
    case round =>
      obtain ⟨k, rfl, hk, hnr⟩ := hrel
      by_cases hlt : k < n
      · have hin : (k : Int) < (n : Int) := by omega
        have ck := hnr.out.cell hlt
        have fk := hnr.out.fz k
        have HM := hide (show NR .i64 3 w1 n (FL (fun _ => (q : Int)) n (k + 1)) (wr.setCell ⟨w1.heap.size, k, none⟩ (.int .i64 (q : Int))) from by
          have := hnr.out.set k (q : Int)
          rw [FL_set (fun _ => (q : Int)) n k] at this
          exact this)
        clear hnr
        generalize (FL (fun _ => (q : Int)) n k).getD k 0 = old at *
        go_wp2
        go_roundw
        case rel => exact ⟨k + 1, by go_num, by omega, HM⟩
        case measure => simp [intOf]; omega
      · obtain rfl : n = k := by omega
        have hne : ¬ (n : Int) < (n : Int) := by omega
        have hrl : Row .i64 wr (some ⟨w1.heap.size, 0, none⟩) n n lv := by have := hnr.out.row; rw [HFL.out] at this; exact this
        have K3 := hide (KO.on K1.out hnr.out.bel)
        have HA3 := hide (HA.out _ _ wr hrl)
        clear hnr hrl HA
        go_wp2_with fail
        refine HA3.out.mono ?_
        rintro e w4 ⟨a4, c4, rfl, hr4, hk4⟩
        have K4 := hide (KO.on K3.out hk4)
        have R4 := hide hr4
        clear hr4 hk4 HA3
        go_wp2
        go_loopw [11] (fun s11 W => ∃ k : Nat, s11 = .int .i64 (k : Int) ∧ k ≤ n ∧ Hid (KO w4 W)) (fun s11 _ => n - (intOf s11).toNat)
        case atStart => exact ⟨0, rfl, Nat.zero_le _, hide (KO.refl _)⟩
        case round =>
          obtain ⟨k, rfl, hk, hkw⟩ := hrel
          by_cases hlt : k < n
          · have hin : (k : Int) < (n : Int) := by omega
            have HS := hide (HST.out (k : Int) 1 _ _ wr (R4.out.below hkw.out))
            rw [HON.out.1 k hlt] at HS
            have hkk : ((k : Int) + 1 != (k : Int) + 1) = false := by simp
            go_wp2_with fail
            refine HS.out.mono ?_
            rintro e w5 ⟨rfl, hk5⟩
            have K5 := hide (KO.on hkw.out hk5)
            clear hk5 HS hkw
            go_wp2
            go_roundw
            case rel => exact ⟨k + 1, by go_num, by omega, K5⟩
            case measure => simp [intOf]; omega
          · obtain rfl : n = k := by omega
            have hne2 : ¬ (n : Int) < (n : Int) := by omega
            have HS := hide (HST.out (n : Int) 1 _ _ wr (R4.out.below hkw.out))
            rw [HON.out.2] at HS
            have K5 := hide (KO.on K4.out hkw.out)
            clear hkw
            go_wp2_with fail
            refine HS.out.mono ?_
            rintro e w5 ⟨rfl, hk5⟩
            have K6 := hide (KO.on K5.out hk5)
            clear hk5 HS
            go_wp2
            go_ret
            exact ⟨rfl, K6.out⟩
  · rw [if_pos rfl] at hON
    have HON := hide hON
    clear hON
    go_enter Try.func8, Try.ntmps8
    go_wp2_with fail
    refine HW.out.mono ?_
    rintro e w1 ⟨rfl, hk1⟩
    have K1 := hide hk1
    clear hk1 HW
    go_wp2_with (at_make; refine wpList_make_full _ rfl _ _ 22 rfl w1.heap.size 3 ii (.int .i64 0) 1 Try.underlying22 HII.out HY0.out HY1.out _ _ _ _ n rfl rfl en1 en1 ?b2 ?b3 (Nat.le_refl _) ?_)
    case b2 => rw [HY2.out]; omega
    case b3 => unfold maxLen; omega
    intro w2 hown hgrow
    have hbel := (Below.refl w1.heap.size w1).grown hgrow (Nat.le_refl _) (fun _ h => by cases h)
    have HN2 := hide (NR.made hown hbel (fun _ => (q : Int)))
    clear hown hgrow hbel
    go_wp2
    go_loopw [34] (fun s34 W => ∃ k : Nat, s34 = .int .i64 (k : Int) ∧ k ≤ n ∧ Hid (NR .i64 3 w1 n (FL (fun _ => (q : Int)) n k) W)) (fun s34 _ => n - (intOf s34).toNat)
    case atStart => exact ⟨0, rfl, Nat.zero_le _, HN2⟩
    case round =>
      obtain ⟨k, rfl, hk, hnr⟩ := hrel
      by_cases hlt : k < n
      · have hin : (k : Int) < (n : Int) := by omega
        have ck := hnr.out.cell hlt
        have fk := hnr.out.fz k
        have HM := hide (show NR .i64 3 w1 n (FL (fun _ => (q : Int)) n (k + 1)) (wr.setCell ⟨w1.heap.size, k, none⟩ (.int .i64 (q : Int))) from by
          have := hnr.out.set k (q : Int)
          rw [FL_set (fun _ => (q : Int)) n k] at this
          exact this)
        clear hnr
        generalize (FL (fun _ => (q : Int)) n k).getD k 0 = old at *
        go_wp2
        go_roundw
        case rel => exact ⟨k + 1, by go_num, by omega, HM⟩
        case measure => simp [intOf]; omega
      · obtain rfl : n = k := by omega
        have hne : ¬ (n : Int) < (n : Int) := by omega
        have hrl : Row .i64 wr (some ⟨w1.heap.size, 0, none⟩) n n lv := by have := hnr.out.row; rw [HFL.out] at this; exact this
        have K3 := hide (KO.on K1.out hnr.out.bel)
        have HA3 := hide (HA.out _ _ wr hrl)
        clear hnr hrl HA
        go_wp2_with fail
        refine HA3.out.mono ?_
        rintro e w4 ⟨a4, c4, rfl, hr4, hk4⟩
        have K4 := hide (KO.on K3.out hk4)
        have R4 := hide hr4
        clear hr4 hk4 HA3
        go_wp2
        go_loopw [11] (fun s11 W => ∃ k : Nat, s11 = .int .i64 (k : Int) ∧ k ≤ n ∧ Hid (KO w4 W)) (fun s11 _ => n - (intOf s11).toNat)
        case atStart => exact ⟨0, rfl, Nat.zero_le _, hide (KO.refl _)⟩
        case round =>
          obtain ⟨k, rfl, hk, hkw⟩ := hrel
          by_cases hlt : k < n
          · have hin : (k : Int) < (n : Int) := by omega
            have HS := hide (HST.out (k : Int) (-1) _ _ wr (R4.out.below hkw.out))
            rw [HON.out.1 k hlt] at HS
            have hkk : ((k : Int) + 1 != (k : Int) + 1) = false := by simp
            go_wp2_with fail
            refine HS.out.mono ?_
            rintro e w5 ⟨rfl, hk5⟩
            have K5 := hide (KO.on hkw.out hk5)
            clear hk5 HS hkw
            go_wp2
            go_roundw
            case rel => exact ⟨k + 1, by go_num, by omega, K5⟩
            case measure => simp [intOf]; omega
          · obtain rfl : n = k := by omega
            have hne2 : ¬ (n : Int) < (n : Int) := by omega
            have HS := hide (HST.out (n : Int) (-1) _ _ wr (R4.out.below hkw.out))
            rw [HON.out.2] at HS
            have K5 := hide (KO.on K4.out hkw.out)
            clear hkw
            go_wp2_with fail
            refine HS.out.mono ?_
            rintro e w5 ⟨rfl, hk5⟩
            have K6 := hide (KO.on K5.out hk5)
            clear hk5 HS
            go_wp2
            go_ret
            exact ⟨rfl, K6.out⟩
end Go.Proofs.Ytbbhefiibcbbfaa
