/- PickApart: runs rise, none is empty, and between two of them there is a column that is not marked. -/
import Derived.Test.YtmcbldllbnjipaaPm16
import Derived.Test.YtmcbldllbnjipaaWk16
namespace Go.Proofs.Ytmcbldllbnjipaa
open Go.RowKit
set_option linter.unusedVariables false
set_option maxHeartbeats 1000000
set_option maxRecDepth 100000
namespace Pk
/-- Where the run ahead ends; -1 ahead of the first. -/
def lz (R : List (Nat × Nat)) : Nat → Int
  | 0 => -1
  | k + 1 => ((R.getD k (0, 0)).2 : Int)
theorem lz_lt {q : Nat → Bool} {m k : Nat} (h : k < (RU q m).length) : lz (RU q m) k < (((RU q m).getD k (0, 0)).1 : Int) := by
  cases k with
  | zero => show (-1 : Int) < _; omega
  | succ k =>
    have := RU_next h
    show (((RU q m).getD k (0, 0)).2 : Int) < _
    omega
end Pk
theorem PickApart_walk (w : World) (a0 : Option Addr) (n0 cap0 : Nat) (l : List Int) (h0 : Row .i64 w a0 n0 cap0 l) (hf0 : ∀ x ∈ l, (Lit.int .i64 x).wf = true) (hs0 : n0 * 8 ≤ 140737488351232) (f : Int) (hff : (Lit.int .i64 f).wf = true) (t : Int) (htt : (Lit.int .i64 t).wf = true) :
    Calls Try.prog 6 #[.slice a0 n0 cap0, .int .i64 f, .int .i64 t] w fun e w' => e = .returned (.bool true) ∧ Below w.heap.size w w' := by
  have HW := hide (works16_any w)
  obtain ⟨R, E, hA⟩ := PRA_some l f t
  have HR := hide (fun (W : World) (hk : KO w W) => pruns_any a0 n0 cap0 l f t W (h0.below hk) hs0 R E hA)
  by_cases hE : E = 0
  · subst hE
    obtain ⟨hfo, hRR⟩ : Od.Fo l ∧ R = Pk.RU (Pk.qc (Od.ON l) f t) (Od.ON l).length := by
      rcases hA with ⟨h, _, h2, _⟩ | ⟨_, _, h⟩ | ⟨_, _, _, h⟩
      · exact ⟨h, h2⟩
      · cases h
      · cases h
    obtain ⟨L, hL⟩ : ∃ L, Od.ON l = L := ⟨_, rfl⟩
    have HO := hide (fun (W : World) (hk : KO w W) => order_any a0 n0 cap0 l W (h0.below hk) (by omega) L 0 (.inl ⟨hfo, hL.symm, rfl⟩))
    rw [hL] at hRR
    obtain ⟨m, hm⟩ : ∃ m, L.length = m := ⟨_, rfl⟩
    rw [hm] at HO hRR
    obtain ⟨N, hN⟩ : ∃ N, R.length = N := ⟨_, rfl⟩
    have HLZ : Hid (∀ k, k < N → Pk.lz R k < ((R.getD k (0, 0)).1 : Int)) := hide (fun k hk => by
      have h1 := Pk.lz_lt (q := Pk.qc L f t) (m := m) (k := k) (by rw [← hRR, hN]; exact hk)
      rw [← hRR] at h1; exact h1)
    have HRU : Hid (∀ k, k < N → (R.getD k (0, 0)).1 < (R.getD k (0, 0)).2 ∧ (R.getD k (0, 0)).2 ≤ m ∧ ∀ j, (R.getD k (0, 0)).1 ≤ j → j < (R.getD k (0, 0)).2 → f ≤ L.getD j 0 ∧ L.getD j 0 < t) := hide (fun k hk => by
      have h1 := Pk.RU_run (Pk.RU_at (q := Pk.qc L f t) (m := m) (k := k) (by rw [← hRR, hN]; exact hk))
      rw [← hRR] at h1
      exact ⟨h1.1, h1.2.1, fun j g1 g2 => Pk.qc_iff.1 (h1.2.2.1 j g1 g2)⟩)
    have HM := hide hm
    rw [hN] at HR
    have HLS : Hid (∀ k, Pk.lz R (k + 1) = ((R.getD k (0, 0)).2 : Int)) := hide (fun k => rfl)
    clear h0 hf0 hff htt hA hfo hRR hL hm hN
    go_enter Try.func6, Try.ntmps6
    go_wp2_with fail
    refine HW.out.mono ?_
    rintro e w1 ⟨rfl, hk1⟩
    have K1 := hide hk1
    have HR1 := hide (HR.out w1 hk1)
    clear hk1 HW HR
    go_wp2_with fail
    refine HR1.out.mono ?_
    rintro e w2 ⟨a2, c2, rfl, hp2, hk2⟩
    have K2 := hide (KO.on K1.out hk2)
    have P2 := hide hp2
    have HO2 := hide (HO.out w2 K2.out)
    clear hp2 hk2 HR1 HO
    go_wp2_with fail
    refine HO2.out.mono ?_
    rintro e w3 ⟨a3, c3, rfl, hr3, hk3⟩
    have K3 := hide (KO.on K2.out hk3)
    have R3 := hide hr3
    have P3 := hide (P2.out.below hk3)
    have hNc := P2.out.le
    have hNm := P2.out.max
    unfold maxLen at hNm
    have hmc := R3.out.le
    have hmm := R3.out.max
    unfold maxLen at hmm
    clear hr3 hk3 HO2
    go_wp2
    go_loopw [11, 38] (fun s11 s38 W => ∃ k : Nat, s38 = .int .i64 (k : Int) ∧ k ≤ N ∧ s11 = .int .i64 (Pk.lz R k) ∧ Hid (KO w3 W)) (fun _ s38 _ => N - (intOf s38).toNat)
    case atStart => exact ⟨0, rfl, Nat.zero_le _, rfl, hide (KO.refl _)⟩
    case round =>
      obtain ⟨k, rfl, hk, rfl, hkw⟩ := hrel
      by_cases hlt : k < N
      · have hin : (k : Int) < (N : Int) := by omega
        obtain ⟨b, rfl, hb, hc⟩ := P3.out.cells (by omega)
        have c0 := (Below.cell hkw.out (by exact hb)).trans (hc k hlt).1
        have c1 := (Below.cell hkw.out (by exact hb)).trans (hc k hlt).2
        have h1 := HLZ.out k hlt
        obtain ⟨h2, h3, h4⟩ := HRU.out k hlt
        have h5 := HLS.out k
        have HQ := hide h4
        clear hc h4
        generalize (R.getD k (0, 0)).1 = x at *
        generalize (R.getD k (0, 0)).2 = y at *
        generalize Pk.lz R k = z at *
        have H5 := hide h5
        clear h5
        have g1 : ¬ (x : Int) ≤ z := by omega
        have g2 : ¬ (y : Int) ≤ (x : Int) := by omega
        have g3 : ¬ (m : Int) < (y : Int) := by omega
        obtain ⟨X, hX⟩ : ∃ X, wr.alloc (.cells #[.int .i64 (x : Int), .int .i64 (y : Int)] 39) = X := ⟨_, rfl⟩
        have n0' : X.cell? ⟨wr.heap.size, 0, none⟩ = some (.int .i64 (x : Int)) := by rw [← hX, World.cell?_alloc_mark]; rfl
        have n1 : X.cell? ⟨wr.heap.size, 1, none⟩ = some (.int .i64 (y : Int)) := by rw [← hX, World.cell?_alloc_mark]; rfl
        have HX : Hid (KO w3 X) := hide (by rw [← hX]; exact KO.alloc hkw.out _)
        clear hkw
        go_wp2
        clear hX
        go_loop [14] (fun s14 => ∃ j : Nat, s14 = .int .i64 (j : Int) ∧ x ≤ j ∧ j ≤ y) (fun s14 => y - (intOf s14).toNat)
        case atStart => exact ⟨x, rfl, Nat.le_refl _, by omega⟩
        case round =>
          obtain ⟨j, rfl, hj1, hj2⟩ := hrel
          by_cases hlt2 : j < y
          · have hin2 : (j : Int) < (y : Int) := by omega
            have hjm : (j : Int) < (m : Int) := by omega
            obtain ⟨b3, o3, rfl, hb3, hc3⟩ := R3.out.cells (by omega)
            have c3 := (Below.cell HX.out (by exact hb3)).trans (hc3 j (by rw [HM.out]; omega))
            have h7 := HQ.out j hj1 hlt2
            clear hc3
            generalize L.getD j 0 = v at *
            obtain ⟨h7, h8⟩ := h7
            have g5 : ¬ v < f := by omega
            have g6 : ¬ t ≤ v := by omega
            go_wp2
            go_round
            case rel => exact ⟨j + 1, by go_num, by omega, by omega⟩
            case measure => simp [intOf]; omega
          · obtain rfl : y = j := by omega
            have hne2 : ¬ (y : Int) < (y : Int) := by omega
            go_wp2
            go_roundw
            case rel => exact ⟨k + 1, by go_num, by omega, by rw [H5.out], HX⟩
            case measure => simp [intOf]; omega
      · obtain rfl : N = k := by omega
        have hne : ¬ (N : Int) < (N : Int) := by omega
        go_wp2
        go_ret
        exact ⟨rfl, KO.on K3.out hkw.out⟩
  · have hR : R = [] := by
      rcases hA with ⟨_, _, _, h⟩ | ⟨_, h, _⟩ | ⟨_, _, h, _⟩
      · exact absurd h hE
      · exact h
      · exact h
    subst hR
    have hEb : (E != 0) = true := bne_iff_ne.2 hE
    simp only [List.length_nil] at HR
    clear h0 hf0 hff htt hA
    go_enter Try.func6, Try.ntmps6
    go_wp2_with fail
    refine HW.out.mono ?_
    rintro e w1 ⟨rfl, hk1⟩
    have K1 := hide hk1
    have HR1 := hide (HR.out w1 hk1)
    clear hk1 HW HR
    go_wp2_with fail
    refine HR1.out.mono ?_
    rintro e w2 ⟨a2, c2, rfl, hp2, hk2⟩
    have K2 := hide (KO.on K1.out hk2)
    clear hp2 hk2 HR1
    go_wp2
    go_ret
    exact ⟨rfl, K2.out⟩
end Go.Proofs.Ytmcbldllbnjipaa
