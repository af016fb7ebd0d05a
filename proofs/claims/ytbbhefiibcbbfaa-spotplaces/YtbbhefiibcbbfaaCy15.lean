/- How a stop is sought: by contract. -/
import Derived.Test.YtbbhefiibcbbfaaCx15
namespace Go.Proofs.Ytbbhefiibcbbfaa
open Go.RowKit
set_option linter.unusedVariables false
set_option maxHeartbeats 1000000
set_option maxRecDepth 100000
theorem isStop_any (x y : Int) (w : World) (hy : y.natAbs < 2 ^ 53) : Calls Try.prog 35 #[.complex .f64 (Fl.fb x) (Fl.fb y)] w fun e w' => e = .returned (.bool (!decide (y = 0))) ∧ w = w' := by
  have h := Fl.ne_zero hy
  generalize Fl.fb x = X at *
  generalize Fl.fb y = Y at *
  generalize (!decide (y = 0)) = q at *
  go_enter Try.func35, Try.ntmps35
  go_wp2
  go_ret
  exact ⟨rfl, rfl⟩
/-- What is sought: a stop in a column. -/
theorem sought_any (x y c : Int) (I b : Nat) (w : World) (hx : x.natAbs < 2 ^ 53) (hy : y.natAbs < 2 ^ 53) (hc : c.natAbs < 2 ^ 53) (hb : w.cell? ⟨b, 0, none⟩ = some (.complex .f64 (Fl.fb c) I)) :
    Calls Try.prog 34 #[.complex .f64 (Fl.fb x) (Fl.fb y), .pointer (some ⟨b, 0, none⟩)] w fun e w' => e = .returned (.bool (decide (¬ y = 0 ∧ x = c))) ∧ w = w' := by
  have HS := hide (isStop_any x y w hy)
  have h := Fl.eq_fb hx hc
  by_cases h0 : y = 0
  · rw [decide_eq_true h0] at HS
    rw [decide_eq_false (show ¬ (¬ y = 0 ∧ x = c) from fun q => q.1 h0)]
    clear h h0 hx hy hc
    generalize Fl.fb x = X at *
    generalize Fl.fb y = Y at *
    generalize Fl.fb c = C at *
    simp only [Bool.not_true] at HS
    go_enter Try.func34, Try.ntmps34
    go_wp2_with (go_at_call 35; refine HS.out.mono ?_; rintro e w' ⟨rfl, rfl⟩)
    go_ret
    exact ⟨rfl, rfl⟩
  · rw [decide_eq_false h0] at HS
    have e : decide (¬ y = 0 ∧ x = c) = decide (x = c) := by simp [h0]
    rw [e]
    clear h0 hx hy hc e
    simp only [Bool.not_false] at HS
    generalize Fl.fb x = X at *
    generalize Fl.fb y = Y at *
    generalize Fl.fb c = C at *
    generalize decide (x = c) = q at *
    go_enter Try.func34, Try.ntmps34
    go_wp2_with (go_at_call 35; refine HS.out.mono ?_; rintro e w' ⟨rfl, rfl⟩)
    go_ret
    exact ⟨rfl, rfl⟩
/-- The first stop's place, or -1. -/
def FX (Z : List (Int × Int)) (c : Int) : Int := match Spt.FI Z c with | some k => (k : Int) | none => -1
theorem FX_some {Z : List (Int × Int)} {c : Int} {k : Nat} (hk : k < Z.length) (hc : Spt.Cd Z c k) (h : ∀ j, j < k → ¬ Spt.Cd Z c j) : FX Z c = (k : Int) := by unfold FX; rw [Spt.FI_some hk hc h]
theorem FX_none {Z : List (Int × Int)} {c : Int} (h : ∀ j, j < Z.length → ¬ Spt.Cd Z c j) : FX Z c = -1 := by unfold FX; rw [Spt.FI_none h]
theorem index_any (Z : List (Int × Int)) (c : Int) (B : Nat) (hB : B ≤ 4503599627370496) (hZ : Wz B Z) (hc : c.natAbs < 2 ^ 53) (ao : Option Addr) (n cap : Nat) (w : World) (h : ZR w ao n cap Z) (I b : Nat) (hb : w.cell? ⟨b, 0, none⟩ = some (.complex .f64 (Fl.fb c) I)) :
    Calls Try.prog 33 #[.slice ao n cap, .func (.func 34) #[] #[.pointer (some ⟨b, 0, none⟩)]] w fun e w' => e = .returned (.int .i64 (FX Z c)) ∧ w = w' := by
  have HF : Hid (∀ k, Calls Try.prog 34 #[.complex .f64 (Fl.fb (Z.getD k (0, 0)).1) (Fl.fb (Z.getD k (0, 0)).2), .pointer (some ⟨b, 0, none⟩)] w fun e w' => e = .returned (.bool (decide (Spt.Cd Z c k))) ∧ w = w') :=
    hide fun k => (sought_any _ _ c I b w (by have := (hZ k).1; omega) (by have := (hZ k).2; omega) hc hb)
  have HL := hide h.len
  have HR := hide h
  have hm := h.room
  clear hZ hc hb h
  go_enter Try.func33, Try.ntmps33
  go_wp2
  go_loop [8] (fun s8 => ∃ k : Nat, s8 = .int .i64 (k : Int) ∧ k ≤ n ∧ Hid (∀ j, j < k → ¬ Spt.Cd Z c j)) (fun s8 => n - (intOf s8).toNat)
  case atStart => exact ⟨0, rfl, Nat.zero_le _, hide fun j hj => absurd hj (Nat.not_lt_zero _)⟩
  case round =>
    obtain ⟨k, rfl, hk, hall⟩ := hrel
    by_cases hlt : k < n
    · have hin : (k : Int) < (n : Int) := by omega
      obtain ⟨b0, off, rfl, _, hcl⟩ := HR.out.at (by omega)
      have ck := hcl k hlt
      have HFk := hide (HF.out k)
      by_cases hq : Spt.Cd Z c k
      · rw [decide_eq_true hq] at HFk
        have HX := hide (FX_some (by rw [HL.out]; exact hlt) hq hall.out)
        clear hq hall hcl
        generalize Fl.fb (Z.getD k (0, 0)).1 = X at *
        generalize Fl.fb (Z.getD k (0, 0)).2 = Y at *
        go_wp2_with (go_at_call 34; refine HFk.out.mono ?_; rintro e w' ⟨rfl, rfl⟩)
        go_ret
        exact ⟨by rw [HX.out]; rfl, rfl⟩
      · rw [decide_eq_false hq] at HFk
        have HX : Hid (∀ j, j < k + 1 → ¬ Spt.Cd Z c j) := hide fun j hj => by
          by_cases e : j = k
          · subst e; exact hq
          · exact hall.out j (by omega)
        clear hq hall hcl
        generalize Fl.fb (Z.getD k (0, 0)).1 = X at *
        generalize Fl.fb (Z.getD k (0, 0)).2 = Y at *
        go_wp2_with (go_at_call 34; refine HFk.out.mono ?_; rintro e w' ⟨rfl, rfl⟩)
        go_round
        case rel => exact ⟨k + 1, by go_num, by omega, HX⟩
        case measure => simp [intOf]; omega
    · obtain rfl : n = k := by omega
      have hne : ¬ (n : Int) < (n : Int) := by omega
      have HX := hide (FX_none (Z := Z) (c := c) (by rw [HL.out]; exact hall.out))
      go_wp2
      go_ret
      exact ⟨by rw [HX.out]; rfl, rfl⟩
/-- The first stop's place and the error. -/
def FA (Z : List (Int × Int)) (c : Int) : Int × Int := match Spt.FI Z c with | some k => ((k : Int), 0) | none => (0, 150)
theorem FX_FA (Z : List (Int × Int)) (c : Int) : (FX Z c < 0 ∧ FA Z c = (0, 150)) ∨ (0 ≤ FX Z c ∧ FA Z c = (FX Z c, 0)) := by
  unfold FX FA
  cases Spt.FI Z c with
  | none => exact .inl ⟨by show (-1 : Int) < 0; omega, rfl⟩
  | some k => exact .inr ⟨by show (0 : Int) ≤ (k : Int); omega, rfl⟩
theorem first_any (Z : List (Int × Int)) (c : Int) (B : Nat) (hB : B ≤ 4503599627370496) (hZ : Wz B Z) (hc : c.natAbs < 2 ^ 53) (ao : Option Addr) (n cap : Nat) (w : World) (h : ZR w ao n cap Z) (I b : Nat) (hb : w.cell? ⟨b, 0, none⟩ = some (.complex .f64 (Fl.fb c) I)) :
    Calls Try.prog 23 #[.slice ao n cap, .func (.func 34) #[] #[.pointer (some ⟨b, 0, none⟩)]] w fun e w' => e = .returned (.tuple #[.int .i64 (FA Z c).1, .int .i64 (FA Z c).2]) ∧ w = w' := by
  have HI := hide (index_any Z c B hB hZ hc ao n cap w h I b hb)
  clear hZ hc hb h
  rcases FX_FA Z c with ⟨h1, h2⟩ | ⟨h1, h2⟩
  · rw [h2]
    clear h2
    generalize FX Z c = X at *
    go_enter Try.func23, Try.ntmps23
    go_wp2_with (go_at_call 33; refine HI.out.mono ?_; rintro e w' ⟨rfl, rfl⟩)
    go_ret2
    exact ⟨rfl, rfl⟩
  · rw [h2]
    have h3 : ¬ FX Z c < 0 := by omega
    clear h2
    generalize FX Z c = X at *
    go_enter Try.func23, Try.ntmps23
    go_wp2_with (go_at_call 33; refine HI.out.mono ?_; rintro e w' ⟨rfl, rfl⟩)
    go_ret2
    exact ⟨rfl, rfl⟩
theorem stopAt_any (X I : Nat) (w : World) : Calls Try.prog 24 #[.complex .f64 X I] w fun e w' => e = .returned (.func (.func 34) #[] #[.pointer (some ⟨w.heap.size, 0, none⟩)]) ∧ w' = w.alloc (.cells #[.complex .f64 X I] 38) := by
  go_enter Try.func24, Try.ntmps24
  go_wp2
  go_ret
  exact ⟨rfl, rfl⟩
theorem OF_no {Z : List (Int × Int)} {x y : Int} (h : ¬ y = 1 ∧ ¬ y = -1) : Spt.OF Z x y = (0, 4) := by unfold Spt.OF; rw [if_pos h]
theorem OF_yes {Z : List (Int × Int)} {x y : Int} (h : y = 1 ∨ y = -1) : Spt.OF Z x y = FA Z x := by unfold Spt.OF FA; rw [if_neg (by omega)]; cases Spt.FI Z x <;> rfl
theorem ST_no {Z : List (Int × Int)} {i s : Int} (h : i < 0 ∨ (Z.length : Int) ≤ i ∨ (¬ s = 1 ∧ ¬ s = -1)) : Spt.ST Z i s = (0, 4) := by unfold Spt.ST; rw [if_pos h]
theorem ST_yes {Z : List (Int × Int)} {i : Nat} {s : Int} (hi : i < Z.length) (h : s = 1 ∨ s = -1) : Spt.ST Z (i : Int) s = FA Z ((Z.getD i (0, 0)).1 + s) := by rw [Spt.ST_in hi h]; rfl
theorem found_any (Z : List (Int × Int)) (c : Int) (B : Nat) (hB : B ≤ 4503599627370496) (hZ : Wz B Z) (hc : c.natAbs < 2 ^ 53) (ao : Option Addr) (n cap : Nat) (w : World) (h : ZR w ao n cap Z) (I : Nat) :
    Calls Try.prog 23 #[.slice ao n cap, .func (.func 34) #[] #[.pointer (some ⟨w.heap.size, 0, none⟩)]] (w.alloc (.cells #[.complex .f64 (Fl.fb c) I] 38)) fun e w' => e = .returned (.tuple #[.int .i64 (FA Z c).1, .int .i64 (FA Z c).2]) ∧ KO w w' := by
  refine (first_any Z c B hB hZ hc ao n cap _ (h.below (KO.alloc (KO.refl w) _)) I w.heap.size (by rw [World.cell?_alloc_at _ _ _ _ (by simp)]; rfl)).mono ?_
  rintro e w' ⟨rfl, rfl⟩
  exact ⟨rfl, KO.alloc (KO.refl w) _⟩
theorem offset_any (Z : List (Int × Int)) (x y : Int) (B : Nat) (hB : B ≤ 4503599627370496) (hZ : Wz B Z) (hx : x.natAbs < 2 ^ 53) (hy : y.natAbs < 2 ^ 53) (ao : Option Addr) (n cap : Nat) (w : World) (h : ZR w ao n cap Z) :
    Calls Try.prog 16 #[.slice ao n cap, .complex .f64 (Fl.fb x) (Fl.fb y)] w fun e w' => e = .returned (.tuple #[.int .i64 (Spt.OF Z x y).1, .int .i64 (Spt.OF Z x y).2]) ∧ KO w w' := by
  have HS := hide (stopAt_any (Fl.fb x) (Fl.fb y) w)
  have HG := hide (found_any Z x B hB hZ hx ao n cap w h (Fl.fb y))
  have h1 := Fl.ne_one hy
  have h2 := Fl.ne_neg hy
  clear hZ hx h
  by_cases q1 : y = 1
  · rw [OF_yes (.inl q1)]
    rw [decide_eq_true q1] at h1
    clear h2 hy q1
    generalize Fl.fb x = X at *
    generalize Fl.fb y = Y at *
    simp only [Bool.not_true] at h1
    go_enter Try.func16, Try.ntmps16
    go_wp2_with (first
      | (go_at_call 24; refine HS.out.mono ?_; rintro e w1 ⟨rfl, rfl⟩)
      | (go_at_call 23; refine HG.out.mono ?_; rintro e w2 ⟨rfl, hk2⟩; have HK2 := hide hk2; clear hk2))
    go_ret2
    exact ⟨rfl, HK2.out⟩
  · rw [decide_eq_false q1] at h1
    by_cases q2 : y = -1
    · rw [OF_yes (.inr q2)]
      rw [decide_eq_true q2] at h2
      clear hy q1 q2
      generalize Fl.fb x = X at *
      generalize Fl.fb y = Y at *
      simp only [Bool.not_true, Bool.not_false] at h1 h2
      go_enter Try.func16, Try.ntmps16
      go_wp2_with (first
        | (go_at_call 24; refine HS.out.mono ?_; rintro e w1 ⟨rfl, rfl⟩)
        | (go_at_call 23; refine HG.out.mono ?_; rintro e w2 ⟨rfl, hk2⟩; have HK2 := hide hk2; clear hk2))
      go_ret2
      exact ⟨rfl, HK2.out⟩
    · rw [OF_no ⟨q1, q2⟩]
      rw [decide_eq_false q2] at h2
      clear hy q1 q2 HS HG
      generalize Fl.fb x = X at *
      generalize Fl.fb y = Y at *
      simp only [Bool.not_false] at h1 h2
      go_enter Try.func16, Try.ntmps16
      go_wp2
      go_ret2
      exact ⟨rfl, KO.refl _⟩
theorem step_any (Z : List (Int × Int)) (i s : Int) (B : Nat) (hB : B ≤ 4503599627370496) (hZ : Wz B Z) (ao : Option Addr) (n cap : Nat) (w : World) (h : ZR w ao n cap Z) :
    Calls Try.prog 14 #[.slice ao n cap, .int .i64 i, .int .i64 s] w fun e w' => e = .returned (.tuple #[.int .i64 (Spt.ST Z i s).1, .int .i64 (Spt.ST Z i s).2]) ∧ KO w w' := by
  have hl := h.len
  have hm := h.room
  by_cases h1 : i < 0
  · rw [ST_no (.inl h1)]
    clear h hZ
    go_enter Try.func14, Try.ntmps14
    go_wp2
    go_ret2
    exact ⟨rfl, KO.refl _⟩
  by_cases h2 : (n : Int) ≤ i
  · rw [ST_no (.inr (.inl (by rw [hl]; exact h2)))]
    clear h hZ
    go_enter Try.func14, Try.ntmps14
    go_wp2
    go_ret2
    exact ⟨rfl, KO.refl _⟩
  by_cases h3 : ¬ s = 1 ∧ ¬ s = -1
  · rw [ST_no (.inr (.inr h3))]
    obtain ⟨h3, h4⟩ := h3
    have h3b : (s != 1) = true := bne_iff_ne.2 h3
    have h4b : (s != -1) = true := bne_iff_ne.2 h4
    clear h hZ hl
    go_enter Try.func14, Try.ntmps14
    go_wp2
    go_ret2
    exact ⟨rfl, KO.refl _⟩
  · have hs : s = 1 ∨ s = -1 := by omega
    obtain ⟨k, rfl⟩ : ∃ k : Nat, i = (k : Int) := ⟨i.toNat, by omega⟩
    have hk : k < n := by omega
    have hin : (k : Int) < (n : Int) := by omega
    rw [ST_yes (by rw [hl]; exact hk) hs]
    obtain ⟨b, off, rfl, _, hcl⟩ := h.at (by omega)
    have ck := hcl k hk
    have hz := hZ k
    generalize (Z.getD k (0, 0)).1 = x at *
    generalize (Z.getD k (0, 0)).2 = y at *
    have HS := hide (stopAt_any (Fl.fb (x + s)) (Fl.fb (y + 0)) w)
    have HG := hide (found_any Z (x + s) B hB hZ (by omega) _ n cap w h (Fl.fb (y + 0)))
    have hadd := Fl.run_cadd (P := Try.prog) w 38 (a := x) (b := y) (c := s) (d := 0) (by omega) (by omega) (by omega) (by omega) (by omega) (by omega)
    rw [Fl.fb_zero] at hadd
    generalize Fl.fb (x + s) = X1 at *
    generalize Fl.fb (y + 0) = Y1 at *
    generalize Fl.fb x = X at *
    generalize Fl.fb y = Y at *
    unfold Fl.fb at hadd
    clear hcl hZ hz h hl
    have h1' : ¬ (k : Int) < 0 := by omega
    rcases hs with rfl | rfl
    · have q1 : ((1 : Int) != 1) = false := rfl
      go_enter Try.func14, Try.ntmps14
      go_wp2_with (first
        | (go_at_call 24; refine HS.out.mono ?_; rintro e w1 ⟨rfl, rfl⟩)
        | (go_at_call 23; refine HG.out.mono ?_; rintro e w2 ⟨rfl, hk2⟩; have HK2 := hide hk2; clear hk2))
      go_ret2
      exact ⟨rfl, HK2.out⟩
    · go_enter Try.func14, Try.ntmps14
      go_wp2_with (first
        | (go_at_call 24; refine HS.out.mono ?_; rintro e w1 ⟨rfl, rfl⟩)
        | (go_at_call 23; refine HG.out.mono ?_; rintro e w2 ⟨rfl, hk2⟩; have HK2 := hide hk2; clear hk2))
      go_ret2
      exact ⟨rfl, HK2.out⟩
end Go.Proofs.Ytbbhefiibcbbfaa
