/- Slices of pairs of whole numbers; the document's Step; how spots are held against pairs. -/
import Derived.Test.YtbbhefiibcbbfaaCx15
import Derived.Test.YtbbhefiibcbbfaaPairs
namespace Go.Proofs.Ytbbhefiibcbbfaa
open Go.RowKit
set_option linter.unusedVariables false
set_option maxHeartbeats 1000000
set_option maxRecDepth 100000
/-- The cells of pairs. -/
def flati (ps : List (Int × Int)) : List Value := ps.flatMap fun x => [.int .i64 x.1, .int .i64 x.2]
theorem flati_len (ps : List (Int × Int)) : (flati ps).length = ps.length * 2 := by
  induction ps with
  | nil => rfl
  | cons x ps ih => rw [flati, List.flatMap_cons, List.length_append, ← flati, ih]; simp; omega
theorem flati_snoc (ps : List (Int × Int)) (x : Int × Int) : flati (ps ++ [x]) = flati ps ++ [.int .i64 x.1, .int .i64 x.2] := by
  rw [flati, List.flatMap_append]; simp [flati]
theorem flati_at (ps : List (Int × Int)) (k : Nat) (h : k < ps.length) : (flati ps)[k * 2]? = some (.int .i64 (ps.getD k (0, 0)).1) ∧ (flati ps)[k * 2 + 1]? = some (.int .i64 (ps.getD k (0, 0)).2) := by
  induction ps generalizing k with
  | nil => simp at h
  | cons x ps ih =>
    rw [flati, List.flatMap_cons, ← flati]
    cases k with
    | zero => simp
    | succ k =>
      have := ih k (by simpa using h)
      rw [show (k + 1) * 2 = k * 2 + 2 from by omega]
      rw [List.getElem?_append_right (by simp), List.getElem?_append_right (by simp)]
      simpa using this
/-- A slice that holds these pairs. -/
structure IP (w : World) (ao : Option Addr) (n cap : Nat) (ps : List (Int × Int)) : Prop where
  len : ps.length = n
  le : n ≤ cap
  max : cap ≤ maxLen
  cells : 0 < n → ∃ b, ao = some ⟨b, 0, none⟩ ∧ b < w.heap.size ∧ ∀ k, k < n → w.cell? ⟨b, k * 2, none⟩ = some (.int .i64 (ps.getD k (0, 0)).1) ∧ w.cell? ⟨b, k * 2 + 1, none⟩ = some (.int .i64 (ps.getD k (0, 0)).2)
theorem IP.below {w w' : World} {ao : Option Addr} {n cap : Nat} {ps : List (Int × Int)} (h : IP w ao n cap ps) (hb : KO w w') : IP w' ao n cap ps :=
  ⟨h.len, h.le, h.max, fun h0 => by
    obtain ⟨b, e1, e2, e3⟩ := h.cells h0
    exact ⟨b, e1, Nat.lt_of_lt_of_le e2 hb.size, fun k hk => ⟨(Below.cell hb (by exact e2)).trans (e3 k hk).1, (Below.cell hb (by exact e2)).trans (e3 k hk).2⟩⟩⟩
theorem ip_nil (w : World) : IP w none 0 0 [] := ⟨rfl, Nat.le_refl _, Nat.zero_le _, fun h => by omega⟩
theorem ip_of_owns {w : World} {base e n : Nat} {v : Value} {ps : List (Int × Int)} (h : w.ownsRow base e 2 v n (flati ps)) : ∃ ao cap, v = .slice ao n cap ∧ IP w ao n cap ps := by
  have hl : ps.length = n := by have := h.1; rw [flati_len] at this; omega
  rcases h.2 with ⟨rfl, rfl⟩ | ⟨g, cap, cur, rfl, hb, hg, hn, hc, hs, ht⟩
  · exact ⟨none, 0, rfl, hl, Nat.le_refl _, Nat.zero_le _, fun h0 => by omega⟩
  · refine ⟨_, cap, rfl, hl, hn, hc, fun h0 => ⟨g, rfl, (Array.getElem?_eq_some_iff.1 hg).1, fun k hk => ?_⟩⟩
    have := flati_at ps k (by omega)
    exact ⟨(h.cellAt (k * 2) (by omega)).trans this.1, (h.cellAt (k * 2 + 1) (by omega)).trans this.2⟩
/-- Spots are those of the pairs. -/
theorem spots_yes (Z : List (Int × Int)) (B : Nat) (hB : B ≤ 4503599627370496) (hZ : Wz B Z) (a b : Option Addr) (n c d : Nat) (w : World) (hz : ZR w a n c Z) (hp : IP w b n d Z) :
    Calls Try.prog 12 #[.slice a n c, .slice b n d] w fun e w' => e = .returned (.bool true) ∧ ∃ q, w' = w.drewN q := by
  have hm := hz.room
  have HZ := hide hz
  have HP := hide hp
  have HW := hide hZ
  have hnn : ((n : Int) != (n : Int)) = false := by simp
  clear hz hp hZ
  go_enter Try.func12, Try.ntmps12
  go_wp2
  go_loopw [5] (fun s5 W => ∃ k : Nat, s5 = .int .i64 (k : Int) ∧ k ≤ n ∧ Hid (∃ q, W = w.drewN q)) (fun s5 _ => n - (intOf s5).toNat)
  case atStart => exact ⟨0, rfl, Nat.zero_le _, hide ⟨0, rfl⟩⟩
  case round =>
    obtain ⟨k, rfl, hk, hq⟩ := hrel
    by_cases hlt : k < n
    · have hin : (k : Int) < (n : Int) := by omega
      have HK := hide (below_of_drewN hq.out)
      obtain ⟨b1, o1, rfl, hb1, hc1⟩ := HZ.out.at (by omega)
      obtain ⟨b2, rfl, hb2, hc2⟩ := HP.out.cells (by omega)
      have cz := (Below.cell HK.out (by exact hb1)).trans (hc1 k hlt)
      have p1 := (Below.cell HK.out (by exact hb2)).trans (hc2 k hlt).1
      have p2 := (Below.cell HK.out (by exact hb2)).trans (hc2 k hlt).2
      have hwk := HW.out k
      have r1 : (FloatKind.f64.format.order (Fl.fb (Z.getD k (0, 0)).1) (floatOfInt .f64 (Z.getD k (0, 0)).1) != some .eq) = false := by
        have := Fl.ne_fb (a := (Z.getD k (0, 0)).1) (b := (Z.getD k (0, 0)).1) (by omega) (by omega)
        rw [decide_eq_true rfl] at this
        exact this
      have r2 : (FloatKind.f64.format.order (Fl.fb (Z.getD k (0, 0)).2) (floatOfInt .f64 (Z.getD k (0, 0)).2) != some .eq) = false := by
        have := Fl.ne_fb (a := (Z.getD k (0, 0)).2) (b := (Z.getD k (0, 0)).2) (by omega) (by omega)
        rw [decide_eq_true rfl] at this
        exact this
      generalize Fl.fb (Z.getD k (0, 0)).1 = X at *
      generalize Fl.fb (Z.getD k (0, 0)).2 = Y at *
      generalize (Z.getD k (0, 0)).1 = x at *
      generalize (Z.getD k (0, 0)).2 = y at *
      clear hc1 hc2 hwk HK
      go_wp2_with fail
      go_quiet (fail)
      go_wp2
      go_roundw
      case rel => exact ⟨k + 1, by go_num, by omega, hide (by obtain ⟨q, e⟩ := hq.out; exact ⟨_, by rw [e]; exact World.drewN_drewN _ _ _⟩)⟩
      case measure => simp [intOf]; omega
    · obtain rfl : n = k := by omega
      have hne : ¬ (n : Int) < (n : Int) := by omega
      go_wp2
      go_ret
      exact ⟨rfl, hq.out⟩
end Go.Proofs.Ytbbhefiibcbbfaa
