/- A line in a mirror: Flip, by contract. -/
import Derived.Test.YtbbhefiibcbbfaaCy15
namespace Go.Proofs.Ytbbhefiibcbbfaa
open Go.RowKit
set_option linter.unusedVariables false
set_option maxHeartbeats 1000000
set_option maxRecDepth 100000
namespace Spt
theorem cnt_next {Z : List (Int × Int)} {k : Nat} (h : k < Z.length) : cnt (Z.take (k + 1)) = cnt (Z.take k) + (if ¬ (Z.getD k (0, 0)).2 = 0 then 1 else 0) := by
  unfold cnt
  rw [List.take_succ_eq_append_getElem h, List.filter_append, List.length_append]
  have e : Z.getD k (0, 0) = Z[k] := by simp [List.getD, h]
  rw [e]
  by_cases q : (Z[k]).2 = 0 <;> simp [q]
theorem cnt_le (Z : List (Int × Int)) : cnt Z ≤ Z.length := List.length_filter_le _ _
/-- What is laid so far of a row of spots. -/
def lay (n : Nat) (f : Nat → Int × Int) (k : Nat) : List (Int × Int) := (List.range n).map fun i => if i < k then f i else (0, 0)
theorem lay_len (n : Nat) (f : Nat → Int × Int) (k : Nat) : (lay n f k).length = n := by simp [lay]
theorem lay_zero (n : Nat) (f : Nat → Int × Int) : lay n f 0 = List.replicate n (0, 0) := List.ext_getElem (by simp [lay]) fun i h1 h2 => by simp [lay]
theorem lay_set (n : Nat) (f : Nat → Int × Int) (k : Nat) : (lay n f k).set k (f k) = lay n f (k + 1) := by
  refine List.ext_getElem (by simp [lay]) fun i h1 h2 => ?_
  simp only [List.length_set, lay_len] at h1
  rw [List.getElem_set]
  simp only [lay, List.getElem_map, List.getElem_range]
  by_cases h : k = i
  · subst h; simp
  · rw [if_neg h]
    by_cases hlt : i < k
    · rw [if_pos hlt, if_pos (by omega)]
    · rw [if_neg hlt, if_neg (by omega)]
theorem lay_FP (Z : List (Int × Int)) : lay Z.length (fun i => ((cnt Z : Int) - 1 - (Z.getD i (0, 0)).1, -(Z.getD i (0, 0)).2)) Z.length = FP Z := by
  refine List.ext_getElem (by rw [lay_len, FP_len]) fun i h1 h2 => ?_
  rw [lay_len] at h1
  simp [lay, FP, List.getD, h1]
end Spt
theorem count_any (Z : List (Int × Int)) (B : Nat) (hB : B ≤ 4503599627370496) (hZ : Wz B Z) (ao : Option Addr) (n cap : Nat) (w : World) (h : ZR w ao n cap Z) :
    Calls Try.prog 25 #[.slice ao n cap] w fun e w' => e = .returned (.int .i64 (Spt.cnt Z : Nat)) ∧ w = w' := by
  have HF : Hid (∀ k, Calls Try.prog 35 #[.complex .f64 (Fl.fb (Z.getD k (0, 0)).1) (Fl.fb (Z.getD k (0, 0)).2)] w fun e w' => e = .returned (.bool (!decide ((Z.getD k (0, 0)).2 = 0))) ∧ w = w') :=
    hide fun k => isStop_any _ _ w (by have := (hZ k).2; omega)
  have HL := hide h.len
  have HR := hide h
  have hm := h.room
  have HT : Hid (Spt.cnt (Z.take n) = Spt.cnt Z) := hide (by rw [← h.len, List.take_length])
  have HN := hide (fun k (hk : k < n) => Spt.cnt_next (Z := Z) (k := k) (by rw [h.len]; exact hk))
  have HC := hide (fun k => Nat.le_trans (Spt.cnt_le (Z.take k)) (List.length_take_le k Z))
  clear hZ h
  go_enter Try.func25, Try.ntmps25
  go_wp2
  go_loop [3, 8] (fun s3 s8 => ∃ k c : Nat, s8 = .int .i64 (k : Int) ∧ k ≤ n ∧ s3 = .int .i64 (c : Int) ∧ c ≤ k ∧ Hid (c = Spt.cnt (Z.take k))) (fun _ s8 => n - (intOf s8).toNat)
  case atStart => exact ⟨0, 0, rfl, Nat.zero_le _, rfl, Nat.le_refl _, hide (by simp [Spt.cnt])⟩
  case round =>
    obtain ⟨k, c, rfl, hk, rfl, hck, hc⟩ := hrel
    by_cases hlt : k < n
    · have hin : (k : Int) < (n : Int) := by omega
      obtain ⟨b0, off, rfl, _, hcl⟩ := HR.out.at (by omega)
      have ck := hcl k hlt
      have HFk := hide (HF.out k)
      have HNk := hide (HN.out k hlt)
      by_cases hq : (Z.getD k (0, 0)).2 = 0
      · rw [decide_eq_true hq] at HFk
        rw [if_neg (fun q => q hq), ← hc.out] at HNk
        clear hq hcl hc
        simp only [Bool.not_true] at HFk
        generalize Fl.fb (Z.getD k (0, 0)).1 = X at *
        generalize Fl.fb (Z.getD k (0, 0)).2 = Y at *
        go_wp2_with (go_at_call 35; refine HFk.out.mono ?_; rintro e w' ⟨rfl, rfl⟩)
        go_round
        case rel => exact ⟨k + 1, c, by go_num, by omega, rfl, by omega, hide HNk.out.symm⟩
        case measure => simp [intOf]; omega
      · rw [decide_eq_false hq] at HFk
        rw [if_pos hq, ← hc.out] at HNk
        clear hq hcl hc
        simp only [Bool.not_false] at HFk
        generalize Fl.fb (Z.getD k (0, 0)).1 = X at *
        generalize Fl.fb (Z.getD k (0, 0)).2 = Y at *
        go_wp2_with (go_at_call 35; refine HFk.out.mono ?_; rintro e w' ⟨rfl, rfl⟩)
        go_round
        case rel => exact ⟨k + 1, c + 1, by go_num, by omega, by go_num, by omega, hide HNk.out.symm⟩
        case measure => simp [intOf]; omega
    · obtain rfl : n = k := by omega
      have hne : ¬ (n : Int) < (n : Int) := by omega
      have HX : Hid (c = Spt.cnt Z) := hide (by rw [hc.out, HT.out])
      clear hc
      go_wp2
      go_ret
      exact ⟨by rw [← HX.out]; rfl, rfl⟩
theorem flip_any (Z : List (Int × Int)) (B : Nat) (hZ : Wz B Z) (ao : Option Addr) (n cap : Nat) (w : World) (h : ZR w ao n cap Z) (hB : B + n ≤ 4503599627370496) (hn : n * 16 ≤ 281474976710656) :
    Calls Try.prog 17 #[.slice ao n cap] w fun e w' => e = .returned (.slice (some ⟨w.heap.size, 0, none⟩) n n) ∧ ZR w' (some ⟨w.heap.size, 0, none⟩) n n (Spt.FP Z) ∧ KO w w' := by
  have HC := hide (count_any Z B (by omega) hZ ao n cap w h)
  have HL := hide h.len
  have HR := hide h
  have hcn := Spt.cnt_le Z
  rw [h.len] at hcn
  have HFP := hide (Spt.lay_FP Z)
  rw [h.len] at HFP
  have HZ := hide hZ
  obtain ⟨ii, hii, hy0, hy1, hy2⟩ := info_parts infoC
  have HII : Hid (Try.prog.info? 38 = some ii) := hii
  have HY0 := hide hy0
  have HY1 := hide hy1
  have HY2 := hide hy2
  clear h hZ hii hy0 hy1 hy2
  have HSB := hide (fun (m x y : Int) (W : World) (h1 : m.natAbs < 2 ^ 52) (h2 : x.natAbs < 2 ^ 52) (h3 : y.natAbs ≤ 1) => Fl.run_csub (P := Try.prog) W 38 (a := m) (b := 0) (c := x) (d := y) (by omega) (by decide) (by omega) (by omega) (by omega) (by omega))
  rw [Fl.fb_zero] at HSB
  generalize hcm : Spt.cnt Z = m at *
  have hcv : floatOfInt .f64 ((m : Int) - 1) = Fl.fb ((m : Int) - 1) := rfl
  have hCV := hide hcv
  clear hcv hcm
  go_enter Try.func17, Try.ntmps17
  go_wp2_with (first
    | (go_at_call 25; refine HC.out.mono ?_; rintro e w1 ⟨rfl, rfl⟩)
    | (at_make; refine wpList_make_full _ rfl _ _ 24 rfl w.heap.size 38 ii (.complex .f64 0 0) 1 Try.underlying24 HII.out HY0.out HY1.out _ _ _ _ n rfl rfl rfl rfl ?b2 ?b3 (Nat.le_refl _) ?_))
  case b2 => rw [HY2.out]; omega
  case b3 => unfold maxLen; omega
  intro w1 hown hgrow
  have hbel := (Below.refl w.heap.size w).grown hgrow (Nat.le_refl _) (fun _ h => by cases h)
  rw [hCV.out]
  have HO : Hid (VN (cv Fl.fb) (0, 0) 38 w n (Spt.lay n (fun i => ((m : Int) - 1 - (Z.getD i (0, 0)).1, -(Z.getD i (0, 0)).2)) 0) w1) := hide (by
    rw [Spt.lay_zero]
    exact VN.made (f := cv Fl.fb) (z := (0, 0)) (by rw [show cv Fl.fb (0, 0) = Value.complex .f64 0 0 from by unfold cv; rw [Fl.fb_zero]]; exact hown) hbel)
  clear hown hgrow hbel hCV HC
  obtain ⟨f, hf⟩ : ∃ f : Nat → Int × Int, (fun i => ((m : Int) - 1 - (Z.getD i (0, 0)).1, -(Z.getD i (0, 0)).2)) = f := ⟨_, rfl⟩
  rw [hf] at HO HFP
  have HFI := hide (fun i => (congrFun hf i).symm)
  clear hf
  generalize hM : Fl.fb ((m : Int) - 1) = M
  have HM := hide hM
  clear hM
  go_wp2
  go_loopw [17] (fun s17 W => ∃ k : Nat, s17 = .int .i64 (k : Int) ∧ k ≤ n ∧ Hid (VN (cv Fl.fb) (0, 0) 38 w n (Spt.lay n f k) W)) (fun s17 _ => n - (intOf s17).toNat)
  case atStart => exact ⟨0, rfl, Nat.zero_le _, HO⟩
  case round =>
    clear HO
    obtain ⟨k, rfl, hk, hv⟩ := hrel
    by_cases hlt : k < n
    · have hin : (k : Int) < (n : Int) := by omega
      obtain ⟨b0, off, rfl, hb0, hcl⟩ := HR.out.at (by omega)
      have ck := (Below.cell hv.out.bel (by exact hb0)).trans (hcl k hlt)
      have hz := HZ.out k
      have hfk := HFI.out k
      have hset := hv.out.set k (f k)
      rw [Spt.lay_set, hfk] at hset
      have co := hv.out.cell hlt
      have fo := hv.out.fz k
      have hsub := HSB.out ((m : Int) - 1) _ _ wr (by omega) (show (Z.getD k (0, 0)).1.natAbs < 2 ^ 52 by omega) (show (Z.getD k (0, 0)).2.natAbs ≤ 1 by omega)
      unfold cv at hset co
      simp only [Int.zero_sub] at hsub
      rw [HM.out] at hsub
      have HS := hide hset
      generalize Fl.fb ((m : Int) - 1 - (Z.getD k (0, 0)).1) = X1 at *
      generalize Fl.fb (-(Z.getD k (0, 0)).2) = Y1 at *
      generalize Fl.fb (Z.getD k (0, 0)).1 = X at *
      generalize Fl.fb (Z.getD k (0, 0)).2 = Y at *
      generalize Fl.fb ((Spt.lay n f k).getD k (0, 0)).1 = X0 at *
      generalize Fl.fb ((Spt.lay n f k).getD k (0, 0)).2 = Y0 at *
      have hst := store_complex (P := Try.prog) co fo .f64 X1 Y1
      clear hv hset hz hfk hcl
      go_wp2
      go_roundw
      case rel => exact ⟨k + 1, by go_num, by omega, HS⟩
      case measure => simp [intOf]; omega
    · obtain rfl : n = k := by omega
      have hne : ¬ (n : Int) < (n : Int) := by omega
      have HV := hide (show ZR wr (some ⟨w.heap.size, 0, none⟩) n n (Spt.FP Z) from by
        have := hv.out.row
        rw [HFP.out] at this
        exact this)
      have HB := hide hv.out.bel
      clear hv
      go_wp2
      go_ret
      exact ⟨rfl, HV.out, HB.out⟩
end Go.Proofs.Ytbbhefiibcbbfaa
