/- slices.Repeat of one number. -/
import Derived.Test.YtanoifkegfalgaaNew
namespace Go.Proofs.Ytanoifkegfalgaa
open Go.RowKit
set_option linter.unusedVariables false
set_option maxHeartbeats 1000000
set_option maxRecDepth 100000
theorem bits_one : bits BinOp.and IntKind.u64 1 4294967295 = 1 := by decide +kernel
theorem bits_none : bits BinOp.and IntKind.u64 0 4294967295 = 0 := by decide +kernel
theorem bits_small : ∀ n, n < 4097 → bits BinOp.and IntKind.u64 ((n : Nat) : Int) 4294967295 = (n : Int) := by decide +kernel
theorem mul64_any (n : Nat) (w : World) (hn : n ≤ 4096) :
    Calls Try.prog 35 #[.int .u64 1, .int .u64 (n : Int)] w fun e w' => e = .returned (.tuple #[.int .u64 0, .int .u64 (n : Int)]) ∧ w = w' := by
  have h1 := bits_one
  have h2 := bits_none
  have h3 := bits_small n (by omega)
  have h4 : (n : Int) / 4294967296 = 0 := by omega
  have h5 : IntKind.u64.wrap (n : Int) = (n : Int) := by rw [IntKind.wrap_u64]; omega
  have h6 : IntKind.u64.wrap 0 = 0 := by rw [IntKind.wrap_u64]; omega
  go_enter Try.func35, Try.ntmps35
  go_wp2
  go_ret2
  exact ⟨rfl, rfl⟩
theorem mul_any (n : Nat) (w : World) (hn : n ≤ 4096) :
    Calls Try.prog 33 #[.int .u64 1, .int .u64 (n : Int)] w fun e w' => e = .returned (.tuple #[.int .u64 0, .int .u64 (n : Int)]) ∧ w = w' := by
  have H := hide (mul64_any n w hn)
  go_enter Try.func33, Try.ntmps33
  go_wp2_with (go_at_call 35; refine H.out.mono ?_; rintro e w' ⟨rfl, rfl⟩)
  go_ret2
  exact ⟨rfl, rfl⟩
theorem add_at (g b : Nat) : (⟨g, 0, none⟩ : Addr).add b = ⟨g, b, none⟩ := by unfold Addr.add; split <;> simp_all
/-- The new row as far as it is filled. -/
structure CP (w : World) (y : Int) (n k : Nat) (W : World) : Prop where
  blk : W.heap[w.heap.size]? = some (.cells ((FL (fun _ => y) n k).map (Value.int .i64)).toArray 3 (0, 0))
  bel : Below w.heap.size w W
theorem FL_more (y : Int) {n k m : Nat} (h : k + m ≤ n) : (FL (fun _ => y) n k).take k ++ List.replicate m y ++ (FL (fun _ => y) n k).drop (k + m) = FL (fun _ => y) n (k + m) := by
  refine List.ext_getElem (by simp [FL_len]; omega) fun i h1 h2 => ?_
  rw [FL_len] at h2
  by_cases e1 : i < k
  · rw [List.getElem_append_left (by simp [FL_len]; omega), List.getElem_append_left (by simp [FL_len]; omega)]
    simp [FL, e1, show i < k + m by omega]
  · by_cases e2 : i < k + m
    · rw [List.getElem_append_left (by simp [FL_len]; omega), List.getElem_append_right (by simp [FL_len]; omega)]
      simp [FL, e2]
    · rw [List.getElem_append_right (by simp [FL_len]; omega)]
      simp [FL, e2, show ¬ k + m + (i - (min k n + m)) < k by omega]
theorem CP.copy {w W : World} {y : Int} {n k m : Nat} (h : CP w y n k W) (a : Addr) (sLen sCap dLen dCap : Nat) (hm : m = Nat.min sLen dLen) (hk : k + m ≤ n) (hsrc : ∀ j, j < m → W.cell? (a.add j) = some (.int .i64 y)) :
    ∃ W2, (Builtin.copy_ #[22, 22] 3 #[.slice (some ⟨w.heap.size, k, none⟩) dLen dCap, .slice (some a) sLen sCap]).run Try.prog W = .ok (.int .i64 (m : Int)) W2 ∧ CP w y n (k + m) W2 := by
  have hrun := run_copy_row (P := Try.prog) W 22 22 3 3 w.heap.size k dLen dCap a sLen sCap _ 3 (List.replicate m (Value.int .i64 y)) Try.underlying22 sizeInt h.blk (by rw [List.length_replicate]; exact hm)
    (fun j v hj => by
      rw [List.getElem?_replicate] at hj
      split at hj
      · rename_i h1
        rw [hsrc j h1]
        exact hj
      · cases hj) (by rw [List.length_replicate]; simp [FL_len]; exact hk) (fun v hv => by rw [(List.mem_replicate.1 hv).2]; rfl)
  rw [List.length_replicate] at hrun
  refine ⟨_, hrun, ?_, below_setRow' h.bel (Nat.le_refl _) _⟩
  rw [setRow_heap W _ _ _ _ _ h.blk, ← FL_more y hk]
  simp [List.map_append, List.map_take, List.map_drop]
theorem CP.cell {w W : World} {y : Int} {n k j : Nat} (h : CP w y n k W) (hj : j < k) (hk : k ≤ n) : W.cell? ⟨w.heap.size, j, none⟩ = some (.int .i64 y) := by
  have := h.blk
  simp [World.cell?, this, FL, hj, show j < n by omega]
theorem repeat_any (n cap : Nat) (ao : Option Addr) (y : Int) (w : World) (h : Row .i64 w ao 1 cap [y]) (hn : n ≤ 4096) :
    Calls Try.prog 28 #[.slice ao 1 cap, .int .i64 (n : Int)] w fun e w' => e = .returned (.slice (some ⟨w.heap.size, 0, none⟩) n n) ∧ w'.ownsRow w.heap.size 3 1 (.slice (some ⟨w.heap.size, 0, none⟩) n n) n ((List.replicate n y).map (Value.int .i64)) ∧ KO w w' := by
  have HMU := hide (fun w' => mul_any n w' hn)
  obtain ⟨ii, hii, hy0, hy1, hy2⟩ := info_parts infoInt
  have HII : Hid (Try.prog.info? 3 = some ii) := hii
  have HY0 := hide hy0
  have HY1 := hide hy1
  have HY2 := hide hy2
  obtain ⟨b, off, rfl, hbl, hc⟩ := h.cells (by omega)
  have hc0 := hc 0 (by simp)
  have HC0 := hide hc0
  have e5 : IntKind.i64.wrap (n : Int) = (n : Int) := by rw [IntKind.wrap_i64]; omega
  clear h hii hy0 hy1 hy2 hc hc0
  go_enter Try.func28, Try.ntmps28
  go_wp2_with (first
    | (go_at_call 33; refine (HMU.out _).mono ?_; rintro e w' ⟨rfl, rfl⟩)
    | (at_make; refine wpList_make_full _ rfl _ _ 22 rfl w.heap.size 3 ii (.int .i64 0) 1 Try.underlying22 HII.out HY0.out HY1.out _ _ _ _ n rfl rfl rfl rfl ?b2 ?b3 (Nat.le_refl _) ?_))
  case b2 => rw [HY2.out]; omega
  case b3 => unfold maxLen; omega
  intro w1 hown hgrow
  have hbel := (Below.refl w.heap.size w).grown hgrow (Nat.le_refl _) (fun _ h => by cases h)
  have hb1 := block_owns hown
  have hCP : CP w y n 0 w1 := by
    refine ⟨?_, hbel⟩
    have e2 : (madeCells #[Value.int .i64 0] n).toList = (FL (fun _ => y) n 0).map (Value.int .i64) := by
      rw [FL_zero]
      simp [toList_madeCells_one]
    rw [hb1, e2]
  obtain ⟨w2, hcp, hCP2⟩ := hCP.copy (m := Nat.min 1 n) ⟨b, off, none⟩ 1 cap n n rfl (by rw [Nat.zero_add]; exact Nat.min_le_right _ _) (fun j hj => by
    have : j = 0 := by have : j < 1 := Nat.lt_of_lt_of_le hj (Nat.min_le_left _ _); omega
    subst this
    have h1 := (Below.cell hbel (by exact hbl)).trans HC0.out
    unfold Addr.add
    simpa using h1)
  rw [Nat.zero_add] at hCP2
  have HCP2 := hide hCP2
  have hk1 : Hid (0 < n → 0 < Nat.min 1 n) := hide (fun h => Nat.lt_min.2 ⟨Nat.one_pos, h⟩)
  have hk2 : Hid (Nat.min 1 n ≤ n) := hide (Nat.min_le_right _ _)
  clear hown hgrow hbel hb1 hCP hCP2
  generalize Nat.min 1 n = k0 at *
  go_wp2
  go_loopw [8] (fun s8 W => ∃ k : Nat, s8 = .int .i64 (k : Int) ∧ k ≤ n ∧ Hid (0 < n → 0 < k) ∧ Hid (CP w y n k W)) (fun s8 _ => n - (intOf s8).toNat)
  case atStart => exact ⟨k0, rfl, hk2.out, hk1, HCP2⟩
  case round =>
    obtain ⟨k, rfl, hkn, hk0, hm⟩ := hrel
    by_cases hlt : k < n
    · have hin : (k : Int) < (n : Int) := by omega
      have hkp : 0 < k := hk0.out (by omega)
      have hm2 : CP w y n k wr.drew := ⟨hm.out.blk, hm.out.bel.drew⟩
      obtain ⟨w3, hcp3, hCP3⟩ := hm2.copy (m := Nat.min k (n - k)) ⟨w.heap.size, 0, none⟩ k n (n - k) (n - k) rfl (by have : Nat.min k (n - k) ≤ n - k := Nat.min_le_right _ _; omega) (fun j hj => by
        have h1 : j < k := Nat.lt_of_lt_of_le hj (Nat.min_le_left _ _)
        have h2 := hm2.cell h1 hkn
        rw [add_at]; exact h2)
      have HCP3 := hide hCP3
      have hmin : 0 < Nat.min k (n - k) ∧ Nat.min k (n - k) ≤ n - k := ⟨Nat.lt_min.2 ⟨hkp, by omega⟩, Nat.min_le_right _ _⟩
      have hs1 := fun W => run_from (P := Try.prog) Try.underlying22 HII.out cellsInt (some ⟨w.heap.size, 0, none⟩) n n k (by omega) W
      have hs2 := fun W => run_upto (P := Try.prog) Try.underlying22 HII.out cellsInt (some ⟨w.heap.size, 0, none⟩) n n k (by omega) W
      have ht : tl (some (⟨w.heap.size, 0, none⟩ : Addr)) n k = some ⟨w.heap.size, k, none⟩ := by
        unfold tl
        rw [if_neg (by omega)]
        exact congrArg some (add_at _ _)
      rw [ht] at hs1
      clear hm hm2 hCP3 ht hcp
      generalize Nat.min k (n - k) = m at *
      go_wp2_with fail
      go_region
      go_wp2
      go_roundw
      case rel => exact ⟨k + m, by go_num, by omega, hide (fun _ => by omega), HCP3⟩
      case measure => simp [intOf]; omega
    · obtain rfl : n = k := by omega
      have hne : ¬ (n : Int) < (n : Int) := by omega
      have HO := hide (owns_block (base := w.heap.size) (n := n) (zs := List.replicate n y) hm.out.blk (by rw [FL_end, List.map_const', List.length_range]) (by simp) (by unfold maxLen; omega) (Nat.le_refl _))
      have HK := hide hm.out.bel
      clear hm hcp
      go_wp2
      go_ret
      exact ⟨rfl, by simpa using HO.out, HK.out⟩
end Go.Proofs.Ytanoifkegfalgaa
