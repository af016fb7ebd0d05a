/- A piece of a row turned about in place; the stretches of one level and above. -/
import Derived.Test.YtmcbldllbnjipaaOt
import Derived.Test.YtmcbldllbnjipaaOwn
import Derived.Deep.RegionHeld3
namespace Go.Proofs.Ytmcbldllbnjipaa
open Go.RowKit
set_option linter.unusedVariables false
set_option maxHeartbeats 1000000
set_option maxRecDepth 100000
namespace Od
/-- A list of which m places from b on are turned about, as far as i from either end. -/
def RV (zs : List Int) (b m i : Nat) : List Int := (List.range zs.length).map fun x => if b ≤ x ∧ x < b + m ∧ (x - b < i ∨ m - 1 - (x - b) < i) then zs.getD (b + (m - 1 - (x - b))) 0 else zs.getD x 0
theorem RV_len (zs : List Int) (b m i : Nat) : (RV zs b m i).length = zs.length := by simp [RV]
theorem RV_at {zs : List Int} {b m i x : Nat} (hx : x < zs.length) : (RV zs b m i).getD x 0 = if b ≤ x ∧ x < b + m ∧ (x - b < i ∨ m - 1 - (x - b) < i) then zs.getD (b + (m - 1 - (x - b))) 0 else zs.getD x 0 := by simp [RV, List.getD, hx]
theorem list_getD {a b : List Int} (hl : a.length = b.length) (h : ∀ i, i < a.length → a.getD i 0 = b.getD i 0) : a = b := by
  refine List.ext_getElem hl fun i h1 h2 => ?_
  have := h i h1
  simpa [List.getD, h1, h2] using this
theorem RV_zero (zs : List Int) (b m : Nat) : RV zs b m 0 = zs := by
  refine list_getD (RV_len _ _ _ _) fun x hx => ?_
  rw [RV_len] at hx
  rw [RV_at hx, if_neg (by omega)]
theorem RV_step {zs : List Int} {b m i : Nat} (h : b + m ≤ zs.length) (hi : 2 * i + 1 < m) : ((RV zs b m i).set (b + i) (zs.getD (b + (m - 1 - i)) 0)).set (b + (m - 1 - i)) (zs.getD (b + i) 0) = RV zs b m (i + 1) := by
  refine list_getD (by simp [RV_len]) fun x hx => ?_
  simp only [List.length_set, RV_len] at hx
  rw [getD_set' _ _ _ _ (by simp only [List.length_set, RV_len]; omega), getD_set' _ _ _ _ (by rw [RV_len]; omega), RV_at hx, RV_at hx]
  by_cases h1 : b + (m - 1 - i) = x
  · rw [if_pos h1, if_pos (by omega), show b + (m - 1 - (x - b)) = b + i by omega]
  · rw [if_neg h1]
    by_cases h2 : b + i = x
    · rw [if_pos h2, if_pos (by omega), show b + (m - 1 - (x - b)) = b + (m - 1 - i) by omega]
    · rw [if_neg h2]
      by_cases h3 : b ≤ x ∧ x < b + m ∧ (x - b < i ∨ m - 1 - (x - b) < i)
      · rw [if_pos h3, if_pos (by omega)]
      · rw [if_neg h3, if_neg (by omega)]
theorem RV_end {zs : List Int} {b m i : Nat} (h : b + m ≤ zs.length) (hi : m ≤ 2 * i + 1) : RV zs b m i = RV zs b m m := by
  refine list_getD (by simp [RV_len]) fun x hx => ?_
  rw [RV_len] at hx
  rw [RV_at hx, RV_at hx]
  by_cases h3 : b ≤ x ∧ x < b + m
  · rw [if_pos (c := b ≤ x ∧ x < b + m ∧ (x - b < m ∨ m - 1 - (x - b) < m)) (by omega)]
    by_cases h4 : b ≤ x ∧ x < b + m ∧ (x - b < i ∨ m - 1 - (x - b) < i)
    · rw [if_pos h4]
    · rw [if_neg h4, show b + (m - 1 - (x - b)) = x by omega]
  · rw [if_neg (by omega), if_neg (by omega)]
theorem rev_at (M : List Int) {i : Nat} (h : i < M.length) : M.reverse.getD i 0 = M.getD (M.length - 1 - i) 0 := by
  simp [List.getD, List.getElem?_reverse h]
theorem RV_parts (A M R : List Int) : RV (A ++ (M ++ R)) A.length M.length M.length = A ++ (M.reverse ++ R) := by
  refine list_getD (by simp [RV_len]) fun x h1 => ?_
  rw [RV_len] at h1
  rw [RV_at h1]
  simp only [List.length_append] at h1
  by_cases hA : x < A.length
  · rw [if_neg (by omega), getD_left _ _ _ hA, getD_left _ _ _ hA]
  · obtain ⟨y, rfl⟩ : ∃ y, x = A.length + y := ⟨x - A.length, by omega⟩
    by_cases hM : y < M.length
    · rw [if_pos (by omega), getD_right, getD_right, getD_left _ _ _ (by omega), getD_left _ _ _ (by rw [List.length_reverse]; exact hM), rev_at M hM, show A.length + y - A.length = y by omega]
    · obtain ⟨z, rfl⟩ : ∃ z, y = M.length + z := ⟨y - M.length, by omega⟩
      rw [if_neg (by omega), getD_right, getD_right, getD_right]
      have := getD_right M.reverse R z
      rw [List.length_reverse] at this
      rw [this]
end Od
theorem reverse_any (base g n cap b m c2 : Nat) (ao : Option Addr) (zs : List Int) (w0 w : World) (h : OW base g n cap zs w0 w) (hbm : b + m ≤ n) (ha : 0 < m → ao = some ⟨g, b, none⟩) (hn : n ≤ 9223372036854775807) :
    Calls Try.prog 32 #[.slice ao m c2] w fun e w' => e = .returned (.tuple #[]) ∧ OW base g n cap (Od.RV zs b m m) w0 w' := by
  have HO := hide (show OW base g n cap (Od.RV zs b m 0) w0 w from by rw [Od.RV_zero]; exact h)
  have HLn : Hid (zs.length = n) := hide h.len
  have HA := hide ha
  clear h ha
  go_enter Try.func32, Try.ntmps32
  go_wp2
  go_loopw [2, 3] (fun s2 s3 W => ∃ (i : Nat) (jz : Int), s2 = .int .i64 (i : Int) ∧ s3 = .int .i64 jz ∧ jz = (m : Int) - 1 - (i : Int) ∧ i ≤ m ∧ Hid (OW base g n cap (Od.RV zs b m i) w0 W)) (fun s2 _ _ => m - (intOf s2).toNat)
  case atStart => exact ⟨0, _, rfl, rfl, by omega, by omega, HO⟩
  case round =>
    obtain ⟨i, jz, rfl, rfl, hj, hi, hm⟩ := hrel
    by_cases hlt : (i : Int) < jz
    · obtain ⟨jn, rfl⟩ : ∃ jn : Nat, jz = (jn : Int) := ⟨jz.toNat, by omega⟩
      have hjn : jn = m - 1 - i := by omega
      have HJ := hide hjn
      have hne : ¬ b + i = b + jn := by omega
      have hne2 : ¬ i = jn := by omega
      have hlt2 : i < jn := by omega
      have hin1 : (i : Int) < (m : Int) := by omega
      have hin2 : (jn : Int) < (m : Int) := by omega
      have hm0 : 0 < m := by omega
      have hao : ao = some ⟨g, b, none⟩ := HA.out hm0
      clear HA
      subst hao
      have ci := hm.out.cell (k := b + i) (by omega)
      have cj := hm.out.cell (k := b + jn) (by omega)
      have fi := hm.out.own.frozenAt (b + i)
      have fj := hm.out.own.frozenAt (b + jn)
      have hlz := HLn.out
      have ei : (Od.RV zs b m i).getD (b + i) 0 = zs.getD (b + i) 0 := by rw [Od.RV_at (by omega), if_neg (by omega)]
      have ej : (Od.RV zs b m i).getD (b + jn) 0 = zs.getD (b + jn) 0 := by rw [Od.RV_at (by omega), if_neg (by omega)]
      rw [ei] at ci
      rw [ej] at cj
      clear ei ej
      have hst := Od.RV_step (zs := zs) (b := b) (m := m) (i := i) (by omega) (by omega)
      rw [← hjn] at hst
      have hset := (hm.out.set (b + i) (zs.getD (b + jn) 0)).set (b + jn) (zs.getD (b + i) 0)
      rw [hst] at hset
      have HM := hide hset
      clear hset
      generalize zs.getD (b + i) 0 = x at ci HM
      generalize zs.getD (b + jn) 0 = y at cj HM
      clear hm hst hlz hjn hj
      go_wp2_with fail
      go_region
      go_wp2
      go_roundw
      case rel => exact ⟨i + 1, _, by go_num, rfl, by have := HJ.out; omega, by omega, hide HM.out.drew⟩
      case measure => simp [intOf]; omega
    · have HM := hide (show OW base g n cap (Od.RV zs b m m) w0 wr from by
        have := hm.out
        rw [Od.RV_end (by rw [HLn.out]; exact hbm) (by omega)] at this
        exact this)
      clear hm
      go_wp2
      go_end0
      exact ⟨rfl, HM.out⟩
end Go.Proofs.Ytmcbldllbnjipaa
