import Derived.Test.YtfadjgaledddjaaGreatDoorZf
import Derived.Test.YtfadjgaledddjaaGreatDoorZd
import Derived.Test.YtfadjgaledddjaaGreatDoorZr
import Derived.Test.YtfadjgaledddjaaGreatDoorZe
import Derived.Deep.Cut
import Derived.Deep.RegionLaw
import Derived.Test.YtfadjgaledddjaaGreatDoorZu
/- The document's neighbour, first, run. -/
namespace Go.Proofs.YtfadjgaledddjaaGreatDoor
open Go.RowKit Go.Maps
set_option linter.unusedVariables false
set_option maxHeartbeats 1000000
set_option maxRecDepth 100000
section
variable {lv : List Int} {ao : Option Addr} {n cap : Nat} {w : World}
theorem nb_up_some (h : Row .i64 w ao n cap lv) (hn : n ≤ 2000) {i y : Nat} (hiy : i < y) (hy : y < n) (hk : 0 ≤ lv.getD y 0) (hz : ∀ z, i < z → z < y → lv.getD z 0 < 0) :
    Calls Tryz.prog 70 #[.slice ao n cap, .int .i64 (i : Int), .int .i64 1] w fun e w' => e = .returned (.int .i64 (y : Int)) ∧ w = w' := by
  obtain ⟨b, off, rfl, hbl, hc⟩ := h.cells (by omega)
  have hl := h.len
  have HC := hide hc
  have HL := hide hl
  clear h hc hl
  go_enter Tryz.func70, Tryz.ntmps70
  go_wp2
  go_loopw [7] (fun s7 wr => ∃ z : Nat, i < z ∧ z ≤ y ∧ s7 = .int .i64 (z : Int) ∧ w = wr) (fun s7 _ => y - (intOf s7).toNat)
  case atStart => exact ⟨i + 1, by omega, by omega, by go_num, rfl⟩
  case round =>
    obtain ⟨z, hz1, hz2, rfl, rfl⟩ := hrel
    have hzn : (z : Int) < (n : Int) := by omega
    have cz := HC.out z (by rw [HL.out]; omega)
    by_cases hzy : z < y
    · have hneg := hz z hz1 hzy
      generalize lv.getD z 0 = x at *
      have hneg2 : ¬ (0 : Int) ≤ x := by omega
      clear hz
      go_wp2
      exact ⟨⟨z + 1, by omega, by omega, by go_num, trivial⟩, by simp [intOf]; omega⟩
    · obtain rfl : z = y := by omega
      generalize lv.getD z 0 = x at *
      clear hz
      go_wp2
      go_ret
      exact ⟨rfl, rfl⟩
theorem nb_up_none (h : Row .i64 w ao n cap lv) (hn : n ≤ 2000) {i : Nat} (hi : i < n) (hz : ∀ z, i < z → z < n → lv.getD z 0 < 0) :
    Calls Tryz.prog 70 #[.slice ao n cap, .int .i64 (i : Int), .int .i64 1] w fun e w' => e = .returned (.int .i64 (-1)) ∧ w = w' := by
  obtain ⟨b, off, rfl, hbl, hc⟩ := h.cells (by omega)
  have hl := h.len
  have HC := hide hc
  have HL := hide hl
  clear h hc hl
  go_enter Tryz.func70, Tryz.ntmps70
  go_wp2
  go_loopw [7] (fun s7 wr => ∃ z : Nat, i < z ∧ z ≤ n ∧ s7 = .int .i64 (z : Int) ∧ w = wr) (fun s7 _ => n - (intOf s7).toNat)
  case atStart => exact ⟨i + 1, by omega, by omega, by go_num, rfl⟩
  case round =>
    obtain ⟨z, hz1, hz2, rfl, rfl⟩ := hrel
    by_cases hzy : z < n
    · have hzn : (z : Int) < (n : Int) := by omega
      have cz := HC.out z (by rw [HL.out]; omega)
      have hneg := hz z hz1 hzy
      generalize lv.getD z 0 = x at *
      have hneg2 : ¬ (0 : Int) ≤ x := by omega
      clear hz
      go_wp2
      exact ⟨⟨z + 1, by omega, by omega, by go_num, trivial⟩, by simp [intOf]; omega⟩
    · obtain rfl : z = n := by omega
      have hne : ¬ ((z : Int) < (z : Int)) := by omega
      clear hz
      go_wp2
      go_ret
      exact ⟨rfl, rfl⟩
theorem nb_dn_some (h : Row .i64 w ao n cap lv) (hn : n ≤ 2000) {i y : Nat} (hiy : y < i) (hi : i < n) (hk : 0 ≤ lv.getD y 0) (hz : ∀ z, y < z → z < i → lv.getD z 0 < 0) :
    Calls Tryz.prog 70 #[.slice ao n cap, .int .i64 (i : Int), .int .i64 (-1)] w fun e w' => e = .returned (.int .i64 (y : Int)) ∧ w = w' := by
  obtain ⟨b, off, rfl, hbl, hc⟩ := h.cells (by omega)
  have hl := h.len
  have HC := hide hc
  have HL := hide hl
  clear h hc hl
  obtain ⟨i', rfl⟩ : ∃ i', i = i' + 1 := ⟨i - 1, by omega⟩
  go_enter Tryz.func70, Tryz.ntmps70
  go_wp2
  go_loopw [7] (fun s7 wr => ∃ z : Nat, y ≤ z ∧ z ≤ i' ∧ s7 = .int .i64 (z : Int) ∧ w = wr) (fun s7 _ => (intOf s7).toNat)
  case atStart => exact ⟨i', by omega, by omega, by go_num, rfl⟩
  case round =>
    obtain ⟨z, hz1, hz2, rfl, rfl⟩ := hrel
    have hzn : (z : Int) < (n : Int) := by omega
    have hz0 : (0 : Int) ≤ (z : Int) := by omega
    have cz := HC.out z (by rw [HL.out]; omega)
    by_cases hzy : y < z
    · have hneg := hz z hzy (by omega)
      obtain ⟨z', rfl⟩ : ∃ z', z = z' + 1 := ⟨z - 1, by omega⟩
      generalize lv.getD (z' + 1) 0 = x at *
      have hneg2 : ¬ (0 : Int) ≤ x := by omega
      clear hz
      go_wp2
      refine ⟨⟨z', by omega, by omega, by omega⟩, ?_⟩
      show max ((z' : Int) + 1 + -1) 0 < (z' : Int) + 1
      omega
    · obtain rfl : z = y := by omega
      generalize lv.getD z 0 = x at *
      clear hz
      go_wp2
      go_ret
      exact ⟨rfl, rfl⟩
theorem nb_dn_none (h : Row .i64 w ao n cap lv) (hn : n ≤ 2000) {i : Nat} (hi : i < n) (hz : ∀ z, z < i → lv.getD z 0 < 0) :
    Calls Tryz.prog 70 #[.slice ao n cap, .int .i64 (i : Int), .int .i64 (-1)] w fun e w' => e = .returned (.int .i64 (-1)) ∧ w = w' := by
  obtain ⟨b, off, rfl, hbl, hc⟩ := h.cells (by omega)
  have hl := h.len
  have HC := hide hc
  have HL := hide hl
  clear h hc hl
  go_enter Tryz.func70, Tryz.ntmps70
  go_wp2
  go_loopw [7] (fun s7 wr => ∃ z : Nat, z ≤ i ∧ s7 = .int .i64 ((z : Int) - 1) ∧ w = wr) (fun s7 _ => (intOf s7 + 1).toNat)
  case atStart => exact ⟨i, Nat.le_refl _, by go_num, rfl⟩
  case round =>
    obtain ⟨z, hz2, rfl, rfl⟩ := hrel
    by_cases hzy : 0 < z
    · obtain ⟨z', rfl⟩ : ∃ z', z = z' + 1 := ⟨z - 1, by omega⟩
      have hzn : (z' : Int) < (n : Int) := by omega
      have e1 : ((z' + 1 : Nat) : Int) - 1 = (z' : Int) := by omega
      rw [e1]
      have cz := HC.out z' (by rw [HL.out]; omega)
      have hneg := hz z' (by omega)
      generalize lv.getD z' 0 = x at *
      have hneg2 : ¬ (0 : Int) ≤ x := by omega
      clear hz
      go_wp2
      exact ⟨⟨z', by omega, by go_num, trivial⟩, by simp [intOf]; omega⟩
    · obtain rfl : z = 0 := by omega
      clear hz
      go_wp2
      go_ret
      exact ⟨rfl, rfl⟩
end
end Go.Proofs.YtfadjgaledddjaaGreatDoor

/- The document's first, run. -/
namespace Go.Proofs.YtfadjgaledddjaaGreatDoor
open Go.RowKit Go.Maps
set_option linter.unusedVariables false
set_option maxHeartbeats 1000000
set_option maxRecDepth 100000
section
variable {lv : List Int} {rs : List (List Nat)} {ao : Option Addr} {n cap : Nat} {w : World}
theorem kp_false {z : Nat} (h : Rn.kp lv z = false) : lv.getD z 0 < 0 := by unfold Rn.kp at h; simpa using h
theorem kp_true {z : Nat} (h : Rn.kp lv z = true) : 0 ≤ lv.getD z 0 := by unfold Rn.kp at h; simpa using h
theorem rfirst_neg (h : Row .i64 w ao n cap lv) {i : Nat} (hi : i < n) (hz : lv.getD i 0 < 0) :
    Calls Tryz.prog 41 #[.slice ao n cap, .int .i64 (i : Int)] w fun e w' => e = .returned (.bool false) ∧ ∃ q, w' = w.drewN q := by
  obtain ⟨b, off, rfl, hbl, hc⟩ := h.cells (by omega)
  have ci := hc i (by rw [h.len]; exact hi)
  have hin : (i : Int) < (n : Int) := by omega
  generalize lv.getD i 0 = x at *
  clear h hc
  go_enter Tryz.func41, Tryz.ntmps41
  go_wp2
  go_ret
  exact ⟨rfl, 0, rfl⟩
theorem rfirst_two (h : Row .i64 w ao n cap lv) (hn : n ≤ 2000) {i y : Nat} (hi : i < n) (hz : 0 ≤ lv.getD i 0) (hy : y < i) (hk : 0 ≤ lv.getD y 0) (ha : ∀ z, y < z → z < i → lv.getD z 0 < 0) :
    Calls Tryz.prog 41 #[.slice ao n cap, .int .i64 (i : Int)] w fun e w' => e = .returned (.bool (lv.getD y 0 != lv.getD i 0)) ∧ ∃ q, w' = w.drewN q := by
  have HN := hide (nb_dn_some h hn hy hi hk ha)
  obtain ⟨b, off, rfl, hbl, hc⟩ := h.cells (by omega)
  have ci := hc i (by rw [h.len]; exact hi)
  have cy := hc y (by rw [h.len]; omega)
  have hin : (i : Int) < (n : Int) := by omega
  have hin2 : (y : Int) < (n : Int) := by omega
  have gg : decide ((y : Int) < 0) = false := decide_eq_false (by omega)
  have gg1 : ¬ (y : Int) < 0 := by omega
  generalize lv.getD i 0 = x at *
  generalize lv.getD y 0 = x' at *
  have hz2 : ¬ x < 0 := by omega
  clear h hc ha
  go_enter Tryz.func41, Tryz.ntmps41
  go_wp2_with fail
  refine HN.out.mono ?_
  rintro e w' ⟨rfl, rfl⟩
  go_wp2
  go_quiet (fail)
  go_wp2
  go_ret
  exact ⟨rfl, _, rfl⟩
theorem rfirst_none (h : Row .i64 w ao n cap lv) (hn : n ≤ 2000) {i : Nat} (hi : i < n) (hz : 0 ≤ lv.getD i 0) (ha : ∀ z, z < i → lv.getD z 0 < 0) :
    Calls Tryz.prog 41 #[.slice ao n cap, .int .i64 (i : Int)] w fun e w' => e = .returned (.bool true) ∧ ∃ q, w' = w.drewN q := by
  have HN := hide (nb_dn_none h hn hi ha)
  obtain ⟨b, off, rfl, hbl, hc⟩ := h.cells (by omega)
  have ci := hc i (by rw [h.len]; exact hi)
  have hin : (i : Int) < (n : Int) := by omega
  generalize lv.getD i 0 = x at *
  have hz2 : ¬ x < 0 := by omega
  clear h hc ha
  go_enter Tryz.func41, Tryz.ntmps41
  go_wp2_with fail
  refine HN.out.mono ?_
  rintro e w' ⟨rfl, rfl⟩
  go_wp2
  go_quiet (fail)
  go_wp2
  go_ret
  exact ⟨rfl, _, rfl⟩
/-- A run begins here. -/
theorem rfirst_yes (h : Row .i64 w ao n cap lv) (hn : n ≤ 2000) (hR : Rn.Runs lv rs) {j : Nat} (hj : j < rs.length) :
    Calls Tryz.prog 41 #[.slice ao n cap, .int .i64 (Rn.fst rs j : Int)] w fun e w' => e = .returned (.bool true) ∧ ∃ q, w' = w.drewN q := by
  have hf := Rn.fst_kept hR hj
  rw [h.len] at hf
  by_cases hj0 : j = 0
  · subst hj0
    exact rfirst_none h hn hf.1 (kp_true hf.2) (fun z hz => kp_false (hR.before hj z hz))
  · obtain ⟨j', rfl⟩ : ∃ j', j = j' + 1 := ⟨j - 1, by omega⟩
    obtain ⟨⟨a1, a2⟩, a3⟩ := hR.outer j' hj
    have hl := Rn.lst_kept hR (show j' < rs.length by omega)
    have := rfirst_two h hn hf.1 (kp_true hf.2) a1 (kp_true hl.2.1) (fun z h1 h2 => kp_false (a2 z h1 h2))
    rw [hl.2.2, show (lv.getD (Rn.fst rs j') 0 != lv.getD (Rn.fst rs (j' + 1)) 0) = true from bne_iff_ne.2 a3] at this
    exact this
/-- No run begins within a run. -/
theorem rfirst_in (h : Row .i64 w ao n cap lv) (hn : n ≤ 2000) (hR : Rn.Runs lv rs) {j m : Nat} (hj : j < rs.length) (hm : m + 1 < (Rn.rn rs j).length) :
    Calls Tryz.prog 41 #[.slice ao n cap, .int .i64 (((Rn.rn rs j).getD (m + 1) 0 : Nat) : Int)] w fun e w' => e = .returned (.bool false) ∧ ∃ q, w' = w.drewN q := by
  have h1 := hR.kept j (m + 1) hj hm
  have h2 := hR.kept j m hj (by omega)
  obtain ⟨a1, a2⟩ := hR.inner j m hj hm
  rw [h.len] at h1 h2
  have := rfirst_two h hn h1.1 (kp_true h1.2.1) a1 (kp_true h2.2.1) (fun z h1 h2 => kp_false (a2 z h1 h2))
  rw [h1.2.2, h2.2.2, show (lv.getD (Rn.fst rs j) 0 != lv.getD (Rn.fst rs j) 0) = false from by simp] at this
  exact this
/-- The run that begins here. -/
theorem rrun_any (h : Row .i64 w ao n cap lv) (hn : n ≤ 2000) (hR : Rn.Runs lv rs) {j : Nat} (hj : j < rs.length) :
    Calls Tryz.prog 71 #[.slice ao n cap, .int .i64 (Rn.fst rs j : Int)] w fun e w' => ∃ g cp, e = .returned (.slice (some ⟨g, 0, none⟩) (Rn.rn rs j).length cp) ∧ w'.ownsRow w.heap.size 3 1 (.slice (some ⟨g, 0, none⟩) (Rn.rn rs j).length cp) (Rn.rn rs j).length ((Rn.zs (Rn.rn rs j)).map (Value.int .i64)) ∧ Below w.heap.size w w' := by
  obtain ⟨ii, hii, hy0, hy1, hy2⟩ := info_parts infoInt
  have HII := hide hii
  have HY0 := hide hy0
  have HY1 := hide hy1
  have HY2 := hide hy2
  have H := hide h
  have HR := hide hR
  have hpos := hR.pos j hj
  have hf := Rn.fst_kept hR hj
  rw [h.len] at hf
  have hml : (Rn.rn rs j).length ≤ 2000 := by
    have h1 := Rn.mem_len (Rn.rn_mem hj)
    rw [hR.flat] at h1
    have h2 := List.length_filter_le (Rn.kp lv) (List.range lv.length)
    rw [List.length_range] at h2
    have h3 := h.len
    omega
  have HKE := hide (fun m (hm : m < (Rn.rn rs j).length) => (show (Rn.rn rs j).getD m 0 < n ∧ lv.getD ((Rn.rn rs j).getD m 0) 0 = lv.getD (Rn.fst rs j) 0 ∧ 0 ≤ lv.getD ((Rn.rn rs j).getD m 0) 0 from by
    have := hR.kept j m hj hm
    rw [h.len] at this
    exact ⟨this.1, this.2.2, kp_true this.2.1⟩))
  have HNX := hide (fun (W : World) (hb : Below w.heap.size w W) m (hm : m + 1 < (Rn.rn rs j).length) => nb_up_some (h.below hb) hn (hR.inner j m hj hm).1 ((HKE.out (m + 1) hm).1) ((HKE.out (m + 1) hm).2.2) (fun z h1 h2 => kp_false ((hR.inner j m hj hm).2 z h1 h2)))
  have HLA : Hid (∀ (W : World), Below w.heap.size w W → (j + 1 < rs.length ∧ Rn.fst rs (j + 1) < n ∧ ¬ lv.getD (Rn.fst rs (j + 1)) 0 = lv.getD (Rn.fst rs j) 0 ∧ Calls Tryz.prog 70 #[.slice ao n cap, .int .i64 (Rn.lst rs j : Int), .int .i64 1] W (fun e w' => e = .returned (.int .i64 (Rn.fst rs (j + 1) : Int)) ∧ W = w')) ∨ Calls Tryz.prog 70 #[.slice ao n cap, .int .i64 (Rn.lst rs j : Int), .int .i64 1] W (fun e w' => e = .returned (.int .i64 (-1)) ∧ W = w')) := hide fun W hb => by
    by_cases hjl : j + 1 < rs.length
    · obtain ⟨⟨a1, a2⟩, a3⟩ := hR.outer j hjl
      have hf2 := Rn.fst_kept hR hjl
      rw [h.len] at hf2
      exact .inl ⟨hjl, hf2.1, fun e => a3 e.symm, nb_up_some (h.below hb) hn a1 hf2.1 (kp_true hf2.2) (fun z h1 h2 => kp_false (a2 z h1 h2))⟩
    · have hl := (Rn.lst_kept hR hj).1
      rw [h.len] at hl
      have hq : rs.length - 1 = j := by omega
      exact .inr (nb_up_none (h.below hb) hn hl (fun z h1 h2 => kp_false (hR.after (by omega) z (by rw [hq]; exact h1) (by rw [h.len]; exact h2))))
  have HFE := hide (show (Rn.rn rs j).getD 0 0 = Rn.fst rs j from rfl)
  have HLE := hide (show (Rn.rn rs j).getD ((Rn.rn rs j).length - 1) 0 = Rn.lst rs j from rfl)
  obtain ⟨b, off, rfl, hbl, hc⟩ := h.cells (by omega)
  have cf := hc (Rn.fst rs j) (by rw [h.len]; exact hf.1)
  have hfn : (Rn.fst rs j : Int) < (n : Int) := by omega
  have HC := hide hc
  have HLn := hide h.len
  have HOW0 := hide (show (w.alloc (.cells #[.int .i64 (Rn.fst rs j : Int)] 3)).ownsRow w.heap.size 3 1 (.slice (some ⟨w.heap.size, 0, none⟩) 1 1) 1 ((Rn.zs ((Rn.rn rs j).take 1)).map (Value.int .i64)) from by
    have e : (Rn.rn rs j).take 1 = [Rn.fst rs j] := by
      have := Rn.split_at (Rn.rn rs j) 0 0 hpos
      rw [this]; simp [Rn.fst]
    rw [e]
    exact World.ownsRow_lit w #[.int .i64 (Rn.fst rs j : Int)] 1 (Nat.le_refl _) (by unfold maxLen; omega) rfl)
  generalize Rn.fst rs j = f at *
  generalize lv.getD f 0 = lf at *
  generalize hrr : Rn.rn rs j = r at *
  clear h hR hii hy0 hy1 hy2 hc hf hrr
  go_enter Tryz.func71, Tryz.ntmps71
  go_wp2
  go_loopw [5] (fun s5 wr => ∃ m : Nat, m < r.length ∧ Hid (wr.ownsRow w.heap.size 3 1 s5 (m + 1) ((Rn.zs (r.take (m + 1))).map (Value.int .i64)) ∧ Below w.heap.size w wr)) (fun s5 _ => match s5 with | .slice _ k _ => r.length - k | _ => 0)
  case atStart => exact ⟨0, hpos, hide ⟨HOW0.out, (Below.refl _ _).alloc (Nat.le_refl _) _⟩⟩
  case round =>
    obtain ⟨m, hm, hq⟩ := hrel
    obtain ⟨how, hbw⟩ := hq.out
    obtain ⟨g, cp, rfl, hgB, hcp⟩ := owns_pos how (by omega)
    have ct : wr.cell? ⟨g, m, none⟩ = some (.int .i64 (r.getD m 0 : Int)) := by
      have := owns_cell how m (by omega)
      rw [Rn.zs_at _ _ (by simp; omega)] at this
      rw [this]
      simp [List.getD]
    have cf2 := (hbw.cell (p := ⟨b, off + f, none⟩) (by exact hbl)).trans cf
    have em : ((m + 1 : Nat) : Int) - 1 = (m : Int) := by omega
    have hmm : (m : Int) < (m : Int) + 1 := by omega
    by_cases hml2 : m + 1 < r.length
    · have HN := hide (HNX.out wr hbw m hml2)
      obtain ⟨k1, k2, k3⟩ := HKE.out (m + 1) hml2
      have cn := (hbw.cell (p := ⟨b, off + r.getD (m + 1) 0, none⟩) (by exact hbl)).trans (HC.out (r.getD (m + 1) 0) (by rw [HLn.out]; exact k1))
      rw [k2] at cn
      have HTS := hide (show r.take (m + 1 + 1) = r.take (m + 1) ++ [r.getD (m + 1) 0] from by rw [List.take_succ_eq_append_getElem hml2]; simp [List.getD, hml2])
      generalize r.getD m 0 = x at *
      generalize r.getD (m + 1) 0 = y at *
      have gg : decide ((y : Int) < 0) = false := decide_eq_false (by omega)
      have gg1 : ¬ (y : Int) < 0 := by omega
      have hyn : (y : Int) < (n : Int) := by omega
      have HOW := hide (show ∀ q, (wr.drewN q).ownsRow w.heap.size 3 1 (.slice (some ⟨g, 0, none⟩) (m + 1) cp) (m + 1) ((Rn.zs (r.take (m + 1))).map (Value.int .i64)) from fun q => owns_below how (below_drewN wr q))
      have HBW := hide (show ∀ q, Below w.heap.size w (wr.drewN q) from fun q => KO.on hbw (below_drewN wr q))
      have hsz : w.heap.size ≤ wr.heap.size := hbw.size
      clear hq how hbw HNX HLA
      go_wp2_with (go_at_call 70; refine HN.out.mono ?_; rintro e w' ⟨rfl, rfl⟩)
      go_quiet (fail)
      go_wp2_with (at_builtin; refine wpList_append_own_at _ rfl (.tmp 31) (.tmp 33) 24 rfl w.heap.size 3 ii (.int .i64 0) 1 8 Tryz.underlying24 HII.out HY0.out HY1.out HY2.out rfl (by decide) (.slice (some ⟨g, 0, none⟩) (m + 1) cp) (m + 1) _ rfl ((HOW.out nq).alloc _) ⟨wr.heap.size, 0, none⟩ 1 1 [.int .i64 (y : Int)] rfl rfl (cell_one_new _ _ _) (ints_oneCell .i64 [(y : Int)]) (by unfold maxLen; omega) (by omega) (by simp; omega) ?_; intro v6 w6 ho6 hg6 _ _; obtain ⟨g6, c6, rfl, _, _⟩ := owns_pos ho6 (by omega))
      refine ⟨⟨m + 1, hml2, hide ⟨?_, grown_alloc (HBW.out nq) hsz hg6 (fun q hq => by simp [Value.ownBlock] at hq; omega)⟩⟩, ?_⟩
      · rw [HTS.out, Rn.zs_append, List.map_append]
        exact ho6
      · simp only
        omega
    · have hme : m + 1 = r.length := by omega
      have HOW := hide (show ∀ q, (wr.drewN q).ownsRow w.heap.size 3 1 (.slice (some ⟨g, 0, none⟩) (m + 1) cp) (m + 1) ((Rn.zs r).map (Value.int .i64)) from fun q => by
        have := owns_below how (below_drewN wr q)
        rw [hme, List.take_length] at this
        rw [← hme] at this
        exact this)
      have HBW := hide (show ∀ q, Below w.heap.size w (wr.drewN q) from fun q => KO.on hbw (below_drewN wr q))
      have hlst : Rn.lst rs j = r.getD m 0 := by rw [← HLE.out, ← hme, Nat.add_sub_cancel]
      have hla := HLA.out wr hbw
      rw [hlst] at hla
      have HRL := hide (show r.length = m + 1 from hme.symm)
      rcases hla with ⟨h1, h2, h3, h4⟩ | h4
      · have HN := hide h4
        have cn := (hbw.cell (p := ⟨b, off + Rn.fst rs (j + 1), none⟩) (by exact hbl)).trans (HC.out (Rn.fst rs (j + 1)) (by rw [HLn.out]; exact h2))
        generalize lv.getD (Rn.fst rs (j + 1)) 0 = ly at *
        generalize Rn.fst rs (j + 1) = y at *
        generalize r.getD m 0 = x at *
        have gg : decide ((y : Int) < 0) = false := decide_eq_false (by omega)
        have gg1 : ¬ (y : Int) < 0 := by omega
        have hyn : (y : Int) < (n : Int) := by omega
        have gg2 : (ly != lf) = true := bne_iff_ne.2 h3
        clear hq how hbw HNX HLA h4 hlst hme hml2
        go_wp2_with (go_at_call 70; refine HN.out.mono ?_; rintro e w' ⟨rfl, rfl⟩)
        go_quiet (fail)
        go_wp2
        go_ret
        have hq := HRL.out
        rw [hq]
        exact ⟨g, cp, rfl, HOW.out nq, HBW.out nq⟩
      · have HN := hide h4
        generalize r.getD m 0 = x at *
        clear hq how hbw HNX HLA h4 hlst hme hml2
        go_wp2_with (go_at_call 70; refine HN.out.mono ?_; rintro e w' ⟨rfl, rfl⟩)
        go_quiet (fail)
        go_wp2
        go_ret
        have hq := HRL.out
        rw [hq]
        exact ⟨g, cp, rfl, HOW.out nq, HBW.out nq⟩
end
end Go.Proofs.YtfadjgaledddjaaGreatDoor

/- The document's side, level, owned. -/
namespace Go.Proofs.YtfadjgaledddjaaGreatDoor
open Go.RowKit Go.Maps
set_option linter.unusedVariables false
set_option maxHeartbeats 1000000
set_option maxRecDepth 100000
theorem refside_any (x y : Int) (w : World) : Calls Tryz.prog 72 #[.int .i64 x, .int .i64 y] w fun e w' => e = .returned (.int .i64 (Rn.sd x y)) ∧ w = w' := by
  unfold Rn.sd
  by_cases hxy : x < y
  · rw [show max x y = y from Int.max_eq_right (by omega)]
    by_cases h : y.tmod 2 = 1
    · rw [if_pos h]
      have hb : (y.tmod 2 == 1) = true := by rw [h]; rfl
      clear h
      go_enter Tryz.func72, Tryz.ntmps72
      go_wp2
      go_ret
      exact ⟨rfl, rfl⟩
    · rw [if_neg h]
      have hb : (y.tmod 2 == 1) = false := beq_false_of_ne h
      clear h
      go_enter Tryz.func72, Tryz.ntmps72
      go_wp2
      go_ret
      exact ⟨rfl, rfl⟩
  · rw [show max x y = x from Int.max_eq_left (by omega)]
    by_cases h : x.tmod 2 = 1
    · rw [if_pos h]
      have hb : (x.tmod 2 == 1) = true := by rw [h]; rfl
      clear h
      go_enter Tryz.func72, Tryz.ntmps72
      go_wp2
      go_ret
      exact ⟨rfl, rfl⟩
    · rw [if_neg h]
      have hb : (x.tmod 2 == 1) = false := beq_false_of_ne h
      clear h
      go_enter Tryz.func72, Tryz.ntmps72
      go_wp2
      go_ret
      exact ⟨rfl, rfl⟩
theorem reflevel_no (ao : Option Addr) (n cap : Nat) (b : Int) (w : World) : Calls Tryz.prog 73 #[.slice ao n cap, .int .i64 (-1), .int .i64 b] w fun e w' => e = .returned (.int .i64 b) ∧ w = w' := by
  go_enter Tryz.func73, Tryz.ntmps73
  go_wp2
  go_ret
  exact ⟨rfl, rfl⟩
theorem reflevel_at {ao : Option Addr} {n cap : Nat} {lv : List Int} {w : World} (h : Row .i64 w ao n cap lv) {i : Nat} (hi : i < n) (b : Int) : Calls Tryz.prog 73 #[.slice ao n cap, .int .i64 (i : Int), .int .i64 b] w fun e w' => e = .returned (.int .i64 (lv.getD i 0)) ∧ w = w' := by
  obtain ⟨bb, off, rfl, hbl, hc⟩ := h.cells (by omega)
  have ci := hc i (by rw [h.len]; exact hi)
  have hin : (i : Int) < (n : Int) := by omega
  have gg : ¬ (i : Int) < 0 := by omega
  generalize lv.getD i 0 = x at *
  clear h hc
  go_enter Tryz.func73, Tryz.ntmps73
  go_wp2
  go_ret
  exact ⟨rfl, rfl⟩
theorem refowned_any {ao : Option Addr} {n cap : Nat} {c : List Int} {w : World} (h : Row .i64 w ao n cap c) (hn : n ≤ 300) {i : Nat} (hi : i < n) (B : Bool) (hB : B = true ↔ ∃ k, k < i ∧ Iso.st (c.getD k 0) = true ∧ Iso.partner c k = i) :
    Calls Tryz.prog 42 #[.slice ao n cap, .int .i64 (i : Int)] w fun e w' => e = .returned (.bool B) ∧ w = w' := by
  have HP := hide (fun k (hk : k < n) => partner_any ao n cap c k w h (by omega) hk)
  have HS := hide (fun x => Starts_any x w)
  have HB := hide hB
  have hlen := h.len
  have HL := hide hlen
  obtain ⟨bb, off, rfl, hbl, hc⟩ := h.cells (by omega)
  have ci := hc i (by rw [hlen]; exact hi)
  have HC := hide hc
  have hin : (i : Int) < (n : Int) := by omega
  by_cases h23 : c.getD i 0 = 23
  · rw [h23] at ci
    clear h hc hB hlen
    go_enter Tryz.func42, Tryz.ntmps42
    go_wp2
    go_loopw [5] (fun s5 wr => ∃ k : Nat, k ≤ i ∧ s5 = .int .i64 (k : Int) ∧ Hid (∀ k', k' < k → ¬ (Iso.st (c.getD k' 0) = true ∧ Iso.partner c k' = i)) ∧ w = wr) (fun s5 _ => i - (intOf s5).toNat)
    case atStart => exact ⟨0, Nat.zero_le _, rfl, hide (fun k' h => by omega), rfl⟩
    case round =>
      obtain ⟨k, hk, rfl, hq, rfl⟩ := hrel
      by_cases hki : k < i
      · have ck := HC.out k (by rw [HL.out]; omega)
        have hki2 : (k : Int) < (i : Int) := by omega
        have hkn : (k : Int) < (n : Int) := by omega
        have HPk := hide (HP.out k (by omega))
        have HSk := hide (HS.out (c.getD k 0))
        have HST := hide (fun (hs : ¬ (Iso.st (c.getD k 0) = true ∧ Iso.partner c k = i)) => (show ∀ k', k' < k + 1 → ¬ (Iso.st (c.getD k' 0) = true ∧ Iso.partner c k' = i) from fun k' hk' => by
          by_cases e : k' = k
          · subst e; exact hs
          · exact hq.out k' (by omega)))
        cases hs : Iso.st (c.getD k 0) with
        | false =>
          rw [hs] at HSk
          have HE := hide (HST.out (by rw [hs]; simp))
          generalize c.getD k 0 = x at *
          clear hq HST hs
          go_wp2_with (go_at_call 35; refine HSk.out.mono ?_; rintro e w' ⟨rfl, rfl⟩)
          exact ⟨⟨k + 1, by omega, by go_num, HE, trivial⟩, by simp [intOf]; omega⟩
        | true =>
          rw [hs] at HSk
          by_cases hp : Iso.partner c k = i
          · have hBt : B = true := HB.out.2 ⟨k, hki, hs, hp⟩
            subst hBt
            rw [hp] at HPk
            generalize c.getD k 0 = x at *
            clear hq HST hs hp
            go_wp2_with (first
              | (go_at_call 35; refine HSk.out.mono ?_; rintro e w' ⟨rfl, rfl⟩)
              | (go_at_call 36; refine HPk.out.mono ?_; rintro e w' ⟨rfl, rfl⟩))
            go_ret
            exact ⟨rfl, rfl⟩
          · have HE := hide (HST.out (fun q => hp q.2))
            generalize c.getD k 0 = x at *
            generalize Iso.partner c k = p at *
            have gp : ((p : Int) == (i : Int)) = false := beq_false_of_ne (by omega)
            have gp2 : ¬ (p : Int) = (i : Int) := by omega
            clear hq HST hs
            go_wp2_with (first
              | (go_at_call 35; refine HSk.out.mono ?_; rintro e w' ⟨rfl, rfl⟩)
              | (go_at_call 36; refine HPk.out.mono ?_; rintro e w' ⟨rfl, rfl⟩))
            exact ⟨⟨k + 1, by omega, by go_num, HE, trivial⟩, by simp [intOf]; omega⟩
      · obtain rfl : k = i := by omega
        have hBf : B = false := by
          cases hb : B with
          | false => rfl
          | true => obtain ⟨k', h1, h2, h3⟩ := HB.out.1 hb; exact absurd ⟨h2, h3⟩ (hq.out k' h1)
        subst hBf
        have hne : ¬ ((k : Int) < (k : Int)) := by omega
        clear hq
        go_wp2
        go_ret
        exact ⟨rfl, rfl⟩
  · have hBf : B = false := by
      cases hb : B with
      | false => rfl
      | true =>
        obtain ⟨k', h1, h2, h3⟩ := hB.1 hb
        have := (Iso.partner_pdi h2 (by rw [h3, hlen]; exact hi)).1
        rw [h3] at this
        exact absurd this h23
    subst hBf
    generalize c.getD i 0 = x at *
    have g23 : (x == 23) = false := beq_false_of_ne h23
    clear h hc hB hlen HB
    go_enter Tryz.func42, Tryz.ntmps42
    go_wp2
    refine wp_loop_rounds 1 ?_
    rw [rounds_succ]
    by_cases h0 : 0 < i
    · have h0' : (0 : Int) < (i : Int) := by omega
      go_wp2
      go_ret
      exact ⟨rfl, rfl⟩
    · have h0' : ¬ (0 : Int) < (i : Int) := by omega
      go_wp2
      go_ret
      exact ⟨rfl, rfl⟩
namespace Rn
theorem aft_ge {f : Nat → Option Nat} {N : Nat} (hf : ∀ k j, k < N → f k = some j → k < j ∧ j < N) : ∀ c k l, k < N → aft f c k = some l → k + c ≤ l ∧ l < N := by
  intro c
  induction c with
  | zero => intro k l hk h; simp [aft] at h; omega
  | succ c ih =>
    intro k l hk h
    rw [aft_succ] at h
    cases hq : f k with
    | none => rw [hq] at h; simp at h
    | some j =>
      rw [hq] at h
      obtain ⟨h1, h2⟩ := hf k j hk hq
      have := ih j l h2 h
      omega
/-- One run more. -/
theorem chn_more {f : Nat → Option Nat} {t k l j : Nat} (ht : aft f t k = some l) (hj : f l = some j) : chn f (t + 1 + 1) k = chn f (t + 1) k ++ [j] ∧ aft f (t + 1) k = some j := by
  have h1 : aft f (t + 1) k = some j := by rw [aft_add, ht]; simp [aft, hj]
  refine ⟨?_, h1⟩
  rw [chn_add f 1 (t + 1) k, h1]
  simp only [chn]
  cases f j <;> rfl
theorem chn_stop {f : Nat → Option Nat} {t k l c : Nat} (ht : aft f t k = some l) (hj : f l = none) (hc : t + 1 ≤ c) : chn f c k = chn f (t + 1) k ∧ ltc f c k = l := by
  have h1 : aft f (t + 1) k = none := by rw [aft_add, ht]; simp [aft, hj]
  obtain ⟨d, rfl⟩ : ∃ d, c = t + 1 + d := ⟨c - (t + 1), by omega⟩
  obtain ⟨e1, _, e3⟩ := ltc_none (b := d) h1
  refine ⟨e1, ?_⟩
  rw [e3]
  have h2 := ltc_some (b := 1) ht (by omega)
  rw [h2.2.2]
  unfold ltc
  simp [chn, hj]
end Rn
end Go.Proofs.YtfadjgaledddjaaGreatDoor

/- The document's sequence. -/
namespace Go.Proofs.YtfadjgaledddjaaGreatDoor
open Go.RowKit Go.Maps
set_option linter.unusedVariables false
set_option maxHeartbeats 2000000
set_option maxRecDepth 100000
theorem build_seq2 (ao : Option Addr) (n cap : Nat) (x : Int) (w : World) : (Instr.build 57 #[(0, .slice ao n cap), (1, .int .i64 x)]).run Tryz.prog w = .ok (.agg #[.slice ao n cap, .int .i64 x, .int .i64 0, .int .i64 0]) w := run_build w 57 _ _ (by kernel_rfl)
/-- A sequence on the way: a variable of its type at xb, the result at w's end. -/
structure XB (w W1 P : World) (xb g L cp : Nat) (ps : List Nat) (x y z : Int) : Prop where
  hx : P.heap[xb]? = some (.cells #[.slice (some ⟨g, 0, none⟩) L cp, .int .i64 x, .int .i64 y, .int .i64 z] 57 (0, 0))
  hr : P.heap[w.heap.size]? = some (.cells #[.slice none 0 0, .int .i64 0, .int .i64 0, .int .i64 0] 57 (0, 0))
  own : P.ownsRow (w.heap.size + 1) 3 1 (.slice (some ⟨g, 0, none⟩) L cp) L ((Rn.zs ps).map (Value.int .i64))
  bel : Below w.heap.size w P
  le : w.heap.size + 1 ≤ xb
section
variable {w W1 P : World} {xb g L cp : Nat} {ps : List Nat} {x y z : Int}
theorem XB.ne (h : XB w W1 P xb g L cp ps x y z) : ¬ g = xb := by
  intro e
  rcases h.own.2 with ⟨q, _⟩ | ⟨a, c2, cur, e2, _, ha, _⟩
  · cases q
  · simp only [Value.slice.injEq, Option.some.injEq, Addr.mk.injEq, and_true] at e2
    obtain ⟨rfl, _⟩ := e2
    rw [e, h.hx] at ha
    simp at ha
theorem XB.drew (h : XB w W1 P xb g L cp ps x y z) : XB w W1 P.drew xb g L cp ps x y z := ⟨h.hx, h.hr, h.own.drew, h.bel.drew, h.le⟩
theorem XB.c (h : XB w W1 P xb g L cp ps x y z) : P.cell? ⟨xb, 0, none⟩ = some (.slice (some ⟨g, 0, none⟩) L cp) ∧ P.cell? ⟨xb, 1, none⟩ = some (.int .i64 x) ∧ P.cell? ⟨xb, 2, none⟩ = some (.int .i64 y) ∧ P.cell? ⟨xb, 3, none⟩ = some (.int .i64 z) := by
  refine ⟨?_, ?_, ?_, ?_⟩ <;> simp [World.cell?, h.hx]
theorem XB.f (h : XB w W1 P xb g L cp ps x y z) (j : Nat) : P.frozen? ⟨xb, j, none⟩ = false := by simp [World.frozen?, h.hx]
theorem XB.rc (h : XB w W1 P xb g L cp ps x y z) : P.cell? ⟨w.heap.size, 0, none⟩ = some (.slice none 0 0) ∧ P.cell? ⟨w.heap.size, 1, none⟩ = some (.int .i64 0) ∧ P.cell? ⟨w.heap.size, 2, none⟩ = some (.int .i64 0) ∧ P.cell? ⟨w.heap.size, 3, none⟩ = some (.int .i64 0) := by
  refine ⟨?_, ?_, ?_, ?_⟩ <;> simp [World.cell?, h.hr]
theorem XB.rf (h : XB w W1 P xb g L cp ps x y z) (j : Nat) : P.frozen? ⟨w.heap.size, j, none⟩ = false := by simp [World.frozen?, h.hr]
theorem XB.set (h : XB w W1 P xb g L cp ps x y z) (j : Nat) (v : Int) {y' z' : Int} (hj : (#[Value.slice (some ⟨g, 0, none⟩) L cp, .int .i64 x, .int .i64 y, .int .i64 z]).setIfInBounds j (.int .i64 v) = #[Value.slice (some ⟨g, 0, none⟩) L cp, .int .i64 x, .int .i64 y', .int .i64 z']) : XB w W1 (P.setCell ⟨xb, j, none⟩ (.int .i64 v)) xb g L cp ps x y' z' := by
  have hle := h.le
  refine ⟨by rw [sset_heap h.hx, hj], ?_, owns_other h.own h.ne, h.bel.setCell (p := ⟨xb, j, none⟩) (by show w.heap.size ≤ xb; omega) _, hle⟩
  rw [Below.heap_setCell _ _ _ _ (by show w.heap.size ≠ xb; omega)]
  exact h.hr
theorem XB.setY (h : XB w W1 P xb g L cp ps x y z) (v : Int) : XB w W1 (P.setCell ⟨xb, 2, none⟩ (.int .i64 v)) xb g L cp ps x v z := h.set 2 v rfl
theorem XB.setZ (h : XB w W1 P xb g L cp ps x y z) (v : Int) : XB w W1 (P.setCell ⟨xb, 3, none⟩ (.int .i64 v)) xb g L cp ps x y v := h.set 3 v rfl
end
section
variable {b : Int} {c : List Int} {ao al : Option Addr} {n cap cl : Nat} {w : World}
/-- The level ahead of a run, as the document asks for it. -/
theorem ref_ahead (h : Row .i64 w al n cl (Ex.LV b c)) (hn : n ≤ 2000) {k : Nat} (hk : k < (Rn.RS (Ex.LV b c)).length) : ∃ z : Int, ∀ q, Calls Tryz.prog 70 #[.slice al n cl, .int .i64 (Rn.fst (Rn.RS (Ex.LV b c)) k : Int), .int .i64 (-1)] (w.drewN q) (fun e w' => e = .returned (.int .i64 z) ∧ w.drewN q = w') ∧ Calls Tryz.prog 73 #[.slice al n cl, .int .i64 z, .int .i64 b] (w.drewN q) (fun e w' => e = .returned (.int .i64 (Rn.ah b (Ex.LV b c) (Rn.RS (Ex.LV b c)) k)) ∧ w.drewN q = w') := by
  have hR := Rn.runs_of (Ex.LV b c)
  generalize Rn.RS (Ex.LV b c) = rs at *
  have hf := Rn.fst_kept hR hk
  rw [h.len] at hf
  unfold Rn.ah
  by_cases hk0 : k = 0
  · subst hk0
    exact ⟨-1, fun q => ⟨nb_dn_none (h.below (below_drewN w q)) hn hf.1 (fun z hz => kp_false (hR.before hk z hz)), reflevel_no al n cl b (w.drewN q)⟩⟩
  · obtain ⟨k', rfl⟩ : ∃ k', k = k' + 1 := ⟨k - 1, by omega⟩
    rw [if_neg hk0, Nat.add_sub_cancel]
    obtain ⟨⟨a1, a2⟩, a3⟩ := hR.outer k' hk
    have hl := Rn.lst_kept hR (show k' < rs.length by omega)
    rw [h.len] at hl
    refine ⟨(Rn.lst rs k' : Int), fun q => ⟨nb_dn_some (h.below (below_drewN w q)) hn a1 hf.1 (kp_true hl.2.1) (fun z h1 h2 => kp_false (a2 z h1 h2)), ?_⟩⟩
    have := reflevel_at (h.below (below_drewN w q)) hl.1 b
    rw [hl.2.2] at this
    exact this
/-- The level behind a run, as the document asks for it. -/
theorem ref_behind (h : Row .i64 w al n cl (Ex.LV b c)) (hn : n ≤ 2000) {l : Nat} (hl : l < (Rn.RS (Ex.LV b c)).length) : ∃ (z : Int), ∀ q, Calls Tryz.prog 70 #[.slice al n cl, .int .i64 (Rn.lst (Rn.RS (Ex.LV b c)) l : Int), .int .i64 1] (w.drewN q) (fun e w' => e = .returned (.int .i64 z) ∧ w.drewN q = w') ∧ Calls Tryz.prog 73 #[.slice al n cl, .int .i64 z, .int .i64 b] (w.drewN q) (fun e w' => e = .returned (.int .i64 (if l = (Rn.RS (Ex.LV b c)).length - 1 then b else Rn.lvl (Ex.LV b c) (Rn.RS (Ex.LV b c)) (l + 1))) ∧ w.drewN q = w') := by
  have hR := Rn.runs_of (Ex.LV b c)
  generalize Rn.RS (Ex.LV b c) = rs at *
  have hlk := Rn.lst_kept hR hl
  rw [h.len] at hlk
  by_cases hl0 : l = rs.length - 1
  · rw [if_pos hl0]
    exact ⟨-1, fun q => ⟨nb_up_none (h.below (below_drewN w q)) hn hlk.1 (fun z h1 h2 => kp_false (hR.after (by omega) z (by rw [← hl0]; exact h1) (by rw [h.len]; exact h2))), reflevel_no al n cl b (w.drewN q)⟩⟩
  · rw [if_neg hl0]
    obtain ⟨⟨a1, a2⟩, a3⟩ := hR.outer l (by omega)
    have hf := Rn.fst_kept hR (show l + 1 < rs.length by omega)
    rw [h.len] at hf
    exact ⟨(Rn.fst rs (l + 1) : Int), fun q => ⟨nb_up_some (h.below (below_drewN w q)) hn a1 hf.1 (kp_true hf.2) (fun z h1 h2 => kp_false (a2 z h1 h2)), reflevel_at (h.below (below_drewN w q)) hf.1 b⟩⟩
theorem refsequence_any (h : Row .i64 w ao n cap c) (h' : Row .i64 w al n cl (Ex.LV b c)) (hn : n ≤ 300) (hb : b = 0 ∨ b = 1) (hF : Ex.Formed c) {k : Nat} (hk : k < (Rn.RS (Ex.LV b c)).length) :
    Calls Tryz.prog 43 #[.slice ao n cap, .slice al n cl, .int .i64 (Rn.fst (Rn.RS (Ex.LV b c)) k : Int), .int .i64 b] w fun e w' => ∃ g cp, e = .returned (.agg #[.slice (some ⟨g, 0, none⟩) (Rn.sq b (Ex.LV b c) (Iso.MT c) (Rn.RS (Ex.LV b c)) k).places.length cp, .int .i64 (Rn.sq b (Ex.LV b c) (Iso.MT c) (Rn.RS (Ex.LV b c)) k).lvl, .int .i64 (Rn.sq b (Ex.LV b c) (Iso.MT c) (Rn.RS (Ex.LV b c)) k).sos, .int .i64 (Rn.sq b (Ex.LV b c) (Iso.MT c) (Rn.RS (Ex.LV b c)) k).eos]) ∧ w'.ownsRow w.heap.size 3 1 (.slice (some ⟨g, 0, none⟩) (Rn.sq b (Ex.LV b c) (Iso.MT c) (Rn.RS (Ex.LV b c)) k).places.length cp) (Rn.sq b (Ex.LV b c) (Iso.MT c) (Rn.RS (Ex.LV b c)) k).places.length ((Rn.zs (Rn.sq b (Ex.LV b c) (Iso.MT c) (Rn.RS (Ex.LV b c)) k).places).map (Value.int .i64)) ∧ Below w.heap.size w w' := by
  obtain ⟨ii, hii, hy0, hy1, hy2⟩ := info_parts infoInt
  have HII := hide hii
  have HY0 := hide hy0
  have HY1 := hide hy1
  have HY2 := hide hy2
  have hlen := h.len
  have hR := Rn.runs_of (Ex.LV b c)
  have H := hide h
  have H' := hide h'
  have HRU := hide (fun (W : World) (hw : KO w W) j (hj : j < (Rn.RS (Ex.LV b c)).length) => rrun_any (h'.below hw) (by omega) hR hj)
  have HST := hide (fun x W => Starts_any x W)
  have HPA := hide (fun (W : World) (hw : KO w W) i (hi : i < n) => partner_any ao n cap c i W (h.below hw) (by omega) hi)
  have HAH := hide (fun (W : World) (hw : KO w W) => ref_ahead (h'.below hw) (by omega) hk)
  have HBH := hide (fun (W : World) (hw : KO w W) l (hl : l < (Rn.RS (Ex.LV b c)).length) => ref_behind (h'.below hw) (by omega) hl)
  have HSI := hide (fun x y W => refside_any x y W)
  have HUP := hide (Rn.fo_up hb hF)
  have HFS := hide (fun l j (hl : l < (Rn.RS (Ex.LV b c)).length) (hj : Rn.fo (Iso.MT c) (Rn.RS (Ex.LV b c)) l = some j) => Rn.fo_some hb hF hl hj)
  have HFN := hide (fun l (hl : l < (Rn.RS (Ex.LV b c)).length) (hj : Rn.fo (Iso.MT c) (Rn.RS (Ex.LV b c)) l = none) => Rn.fo_none hb hF hl hj)
  have HLK := hide (fun l (hl : l < (Rn.RS (Ex.LV b c)).length) => (show Rn.lst (Rn.RS (Ex.LV b c)) l < n from by have := (Rn.lst_kept hR hl).1; rw [Ex.LV_len] at this; omega))
  have HFK := hide (show Rn.fst (Rn.RS (Ex.LV b c)) k < n ∧ (Ex.LV b c).getD (Rn.fst (Rn.RS (Ex.LV b c)) k) 0 = Rn.lvl (Ex.LV b c) (Rn.RS (Ex.LV b c)) k from ⟨by have := (Rn.fst_kept hR hk).1; rw [Ex.LV_len] at this; omega, rfl⟩)
  have HEN := hide (fun l (hl : l < (Rn.RS (Ex.LV b c)).length) => (show Rn.en (Iso.MT c) (Rn.RS (Ex.LV b c)) l = Iso.st (c.getD (Rn.lst (Rn.RS (Ex.LV b c)) l) 0) from Rn.en_iff (by have := (Rn.lst_kept hR hl).1; rw [Ex.LV_len] at this; omega)))
  have HRL := hide (fun j => (show (Rn.rn (Rn.RS (Ex.LV b c)) j).length ≤ 300 from by
    by_cases hj : j < (Rn.RS (Ex.LV b c)).length
    · have h1 := Rn.R_row (Ex.LV b c) (Ex.LV b c).length j hj
      have e : Rn.rn (Rn.RS (Ex.LV b c)) j = Rn.rn (Rn.R (Ex.LV b c) (Ex.LV b c).length).2 j := rfl
      rw [e]
      rw [Ex.LV_len] at h1 ⊢
      omega
    · have : Rn.rn (Rn.RS (Ex.LV b c)) j = [] := by simp [Rn.rn, List.getD, List.getElem?_eq_none (show (Rn.RS (Ex.LV b c)).length ≤ j by omega)]
      rw [this]; simp))
  have hNl : (Rn.RS (Ex.LV b c)).length ≤ n := by
    have h2 := Rn.R_len (Ex.LV b c) (Ex.LV b c).length
    rw [Ex.LV_len] at h2
    unfold Rn.RS
    rw [Ex.LV_len]
    omega
  have HPOS := hide (fun j (hj : j < (Rn.RS (Ex.LV b c)).length) => hR.pos j hj)
  have HLL := hide (fun l j (hl : l < j) (hj : j < (Rn.RS (Ex.LV b c)).length) => (show Rn.lst (Rn.RS (Ex.LV b c)) l < Rn.lst (Rn.RS (Ex.LV b c)) j from by
    have h1 := Rn.lst_fst hR j l hl hj
    have h2 := (Rn.run_le hR hj (hR.pos j hj)).2
    have e : (Rn.rn (Rn.RS (Ex.LV b c)) j).getD 0 0 = Rn.fst (Rn.RS (Ex.LV b c)) j := rfl
    omega))
  have HSQ : Hid (∀ t l, Rn.aft (Rn.fo (Iso.MT c) (Rn.RS (Ex.LV b c))) t k = some l → Rn.fo (Iso.MT c) (Rn.RS (Ex.LV b c)) l = none → Rn.sq b (Ex.LV b c) (Iso.MT c) (Rn.RS (Ex.LV b c)) k = ⟨Rn.plc (Rn.RS (Ex.LV b c)) (Rn.chn (Rn.fo (Iso.MT c) (Rn.RS (Ex.LV b c))) (t + 1) k), Rn.lvl (Ex.LV b c) (Rn.RS (Ex.LV b c)) k, Rn.sd (Rn.lvl (Ex.LV b c) (Rn.RS (Ex.LV b c)) k) (Rn.ah b (Ex.LV b c) (Rn.RS (Ex.LV b c)) k), Rn.sd (Rn.lvl (Ex.LV b c) (Rn.RS (Ex.LV b c)) k) (Rn.bh b (Ex.LV b c) (Iso.MT c) (Rn.RS (Ex.LV b c)) l)⟩) := hide fun t l ht hl => by
    have h1 := Rn.aft_ge (Rn.fo_up hb hF) t k l hk ht
    obtain ⟨e1, e2⟩ := Rn.chn_stop ht hl (c := (Rn.RS (Ex.LV b c)).length - k) (by omega)
    unfold Rn.sq
    rw [e1, e2]
  obtain ⟨sq, hsq⟩ : ∃ sq, Rn.sq b (Ex.LV b c) (Iso.MT c) (Rn.RS (Ex.LV b c)) k = sq := ⟨_, rfl⟩
  rw [hsq] at HSQ ⊢
  generalize Rn.RS (Ex.LV b c) = rs at *
  generalize Ex.LV b c = lv at *
  generalize Iso.MT c = mt at *
  generalize hfk : Rn.fst rs k = fk at *
  have hfkn : (fk : Int) < (n : Int) := by have := HFK.out.1; omega
  have hbq := build_seq2
  have HFE := hide hfk
  clear h h' hR hii hy0 hy1 hy2 hsq hfk hb hF
  obtain ⟨W1, hW1⟩ : ∃ W1, w.alloc (.cells #[.slice none 0 0, .int .i64 0, .int .i64 0, .int .i64 0] 57) = W1 := ⟨_, rfl⟩
  have hb1 : Below w.heap.size w W1 := by rw [← hW1]; exact (Below.refl _ _).alloc (Nat.le_refl _) _
  have hnew : W1.heap[w.heap.size]? = some (.cells #[.slice none 0 0, .int .i64 0, .int .i64 0, .int .i64 0] 57 (0, 0)) := by rw [← hW1]; exact heap_alloc_new _ _
  have hsz1 : W1.heap.size = w.heap.size + 1 := by rw [← hW1]; simp
  have HB1 := hide hb1
  have HNEW := hide hnew
  have HSZ1 := hide hsz1
  have hru := HRU.out W1 hb1 k hk
  rw [HFE.out] at hru
  have HRU1 := hide hru
  clear hb1 hnew hsz1 hru
  go_enter Tryz.func43, Tryz.ntmps43
  go_wp2_with fail
  refine HRU1.out.mono ?_
  rintro e W2 ⟨g2, c2, rfl, how2, hb2⟩
  rw [HSZ1.out] at how2 hb2
  have hpk := HPOS.out k hk
  have ct2 : W2.cell? ⟨g2, (Rn.rn rs k).length - 1, none⟩ = some (.int .i64 (Rn.lst rs k : Int)) := by
    rw [owns_cell how2 ((Rn.rn rs k).length - 1) (by omega), Rn.zs_at _ _ (by omega)]
    rfl
  obtain ⟨m, hm⟩ : ∃ m, (Rn.rn rs k).length = m + 1 := ⟨(Rn.rn rs k).length - 1, by omega⟩
  have HOW2 := hide how2
  have hm3 := HRL.out k
  rw [hm] at ct2 hm3 ⊢
  rw [Nat.add_sub_cancel] at ct2
  have em : ((m + 1 : Nat) : Int) - 1 = (m : Int) := by omega
  have HM := hide hm
  have HB2 := hide hb2
  clear how2 hb2 HRU1 hm
  go_wp2
  go_loopw [9, 10] (fun s9 s10 wr => ∃ t l L : Nat, s10 = .int .i64 (Rn.lst rs l : Int) ∧ Hid (Rn.aft (Rn.fo mt rs) t k = some l ∧ L = (Rn.plc rs (Rn.chn (Rn.fo mt rs) (t + 1) k)).length ∧ 0 < L ∧ wr.ownsRow (w.heap.size + 1) 3 1 s9 L ((Rn.zs (Rn.plc rs (Rn.chn (Rn.fo mt rs) (t + 1) k))).map (Value.int .i64)) ∧ Below (w.heap.size + 1) W1 wr)) (fun _ s10 _ => n - (intOf s10).toNat)
  case atStart =>
    have e1 : Rn.chn (Rn.fo mt rs) (0 + 1) k = [k] := by rw [Rn.chn_succ]; cases Rn.fo mt rs k <;> rfl
    refine ⟨0, k, m + 1, rfl, hide ⟨rfl, by rw [e1, Rn.plc_one, HM.out], by omega, ?_, HB2.out⟩⟩
    rw [e1, Rn.plc_one]
    have := HOW2.out
    rw [HM.out] at this
    exact this
  case round =>
    obtain ⟨t, l, L, rfl, hq⟩ := hrel
    obtain ⟨q1, q2, q3, q4, q5⟩ := hq.out
    obtain ⟨g, cp, rfl, hgB, hcp⟩ := owns_pos q4 q3
    have hal := Rn.aft_ge HUP.out t k l hk q1
    have hkw : KO w wr := Below.trans HB1.out (q5.mono (by omega))
    have hln := HLK.out l hal.2
    have hcl := Rn.chn_len (Rn.fo mt rs) (t + 1) k
    have hpl := Rn.plc_len (fun j => HRL.out j) (Rn.chn (Rn.fo mt rs) (t + 1) k)
    have hL : L ≤ 90300 := by
      have h1 : (Rn.chn (Rn.fo mt rs) (t + 1) k).length * 300 ≤ (t + 1) * 300 := Nat.mul_le_mul_right _ hcl
      omega
    obtain ⟨bb, off, rfl, hbl, hc⟩ := (H.out.below hkw).cells (by omega)
    have ce := hc (Rn.lst rs l) (by rw [hlen]; exact hln)
    have hln2 : (Rn.lst rs l : Int) < (n : Int) := by omega
    have HS := hide (fun W => HST.out (c.getD (Rn.lst rs l) 0) W)
    have HP := hide (HPA.out wr hkw _ hln)
    have HQ4 := hide q4
    have HQ5 := hide q5
    have HKW := hide hkw
    cases hfo : Rn.fo mt rs l with
    | some j =>
      obtain ⟨f1, f2, f3, f4, f5⟩ := HFS.out l j hal.2 hfo
      obtain ⟨g1, g2⟩ := Rn.chn_more q1 hfo
      have hru := HRU.out wr hkw j f2
      rw [f3] at HS
      rw [f4] at HP
      have HRUJ := hide hru
      have hpj := HPOS.out j f2
      have hlj := HRL.out j
      have hfj : (Rn.fst rs j : Int) < (n : Int) := by omega
      have HLJ := hide (HLL.out l j f1 f2)
      have hjn := HLK.out j f2
      have HG1 := hide g1
      have HG2 := hide g2
      have HQ2 := hide q2
      have HLAST := hide (show (Rn.rn rs j).getD ((Rn.rn rs j).length - 1) 0 = Rn.lst rs j from rfl)
      have hszw : w.heap.size + 1 ≤ wr.heap.size := by have := q5.size; have := HSZ1.out; omega
      obtain ⟨M, hmj⟩ : ∃ M, (Rn.rn rs j).length = M + 1 := ⟨(Rn.rn rs j).length - 1, by omega⟩
      rw [hmj] at HRUJ HLAST hlj
      rw [Nat.add_sub_cancel] at HLAST
      have HMJ := hide hmj
      have HRNJ := hide (show Rn.plc rs [j] = Rn.rn rs j from Rn.plc_one rs j)
      generalize c.getD (Rn.lst rs l) 0 = x at *
      generalize Rn.fst rs j = fj at *
      generalize hxs : Rn.plc rs (Rn.chn (Rn.fo mt rs) (t + 1) k) = xs at *
      have HXS := hide hxs
      clear hq q1 q2 q4 q5 hkw hru f3 f4 f5 g1 g2 hfo hc hcl hpl hmj hxs
      go_wp2_with (first
        | (go_at_call 35; refine (HS.out _).mono ?_; rintro e w' ⟨rfl, rfl⟩)
        | (go_at_call 36; refine HP.out.mono ?_; rintro e w' ⟨rfl, rfl⟩)
        | (go_at_call 71; refine HRUJ.out.mono ?_; rintro e w6 ⟨g6, c6, rfl, how6, hb6⟩; have hq6 := owns_below HQ4.out hb6; have hz6 := hb6.size)
        | (at_builtin; refine wpList_append_row w6 rfl (.tmp 34) (.tmp 39) 24 rfl (w.heap.size + 1) 3 ii (.int .i64 0) 8 Tryz.underlying24 HII.out HY0.out HY1.out HY2.out rfl (.slice (some ⟨g, 0, none⟩) L cp) L _ rfl hq6 .i64 (some ⟨g6, 0, none⟩) (M + 1) c6 (Rn.zs (Rn.rn rs j)) rfl (row_owned how6) (by omega) (by omega) (by omega) ?_; intro v7 w7 ho7 hb7; obtain ⟨g7, c7, rfl, _, _⟩ := owns_pos ho7 (by omega); have ct7 : w7.cell? ⟨g7, L + M, none⟩ = some (.int .i64 (Rn.lst rs j : Int)) := (by
            rw [← List.map_append, ← Rn.zs_append] at ho7
            rw [owns_cell ho7 (L + M) (by omega), Rn.zs_at _ _ (by rw [List.length_append, ← HQ2.out, HMJ.out]; omega)]
            congr 3
            rw [← HLAST.out]
            have := HQ2.out
            simp [List.getD, List.getElem?_append_right (show xs.length ≤ L + M by omega), show L + M - xs.length = M by omega])))
      refine ⟨⟨t + 1, j, L + (M + 1), rfl, hide ⟨HG2.out, ?_, by omega, ?_, ?_⟩⟩, ?_⟩
      · rw [HG1.out, Rn.plc_append, HRNJ.out, HXS.out, List.length_append, HMJ.out, HQ2.out]
      · rw [HG1.out, Rn.plc_append, HRNJ.out, HXS.out, Rn.zs_append, List.map_append]
        exact ho7
      · exact (HQ5.out.trans (hb6.mono hszw)).trans hb7
      · have := HLJ.out
        simp [intOf]
        omega
    | none =>
      have HFNl := hide (HFN.out l hal.2 hfo)
      have HSQl := hide (HSQ.out t l q1 hfo)
      have HENl := hide (HEN.out l hal.2)
      have HBHl := hide (fun (W : World) (hw : KO w W) => HBH.out W hw l hal.2)
      have HQLL := hide q2
      have cfk := (H'.out.below hkw).cells (by omega)
      obtain ⟨lb, loff, rfl, hlbl, hlc⟩ := cfk
      have cf := hlc fk (by have := H'.out.len; have := HFK.out.1; omega)
      rw [HFK.out.2] at cf
      have hszw : w.heap.size + 1 ≤ wr.heap.size := by have := q5.size; have := HSZ1.out; omega
      obtain ⟨X, hX⟩ : ∃ X, wr.alloc (.cells #[.slice (some ⟨g, 0, none⟩) L cp, .int .i64 (Rn.lvl lv rs k), .int .i64 0, .int .i64 0] 57) = X := ⟨_, rfl⟩
      have hxb : XB w W1 X wr.heap.size g L cp (Rn.plc rs (Rn.chn (Rn.fo mt rs) (t + 1) k)) (Rn.lvl lv rs k) 0 0 := by
        rw [← hX]
        refine ⟨heap_alloc_new _ _, ?_, q4.alloc _, Below.alloc hkw hkw.size _, hszw⟩
        rw [Below.heap_alloc wr _ _ (by omega)]
        exact (q5.block _ (by omega)).trans HNEW.out
      have HXB := hide hxb
      obtain ⟨z1, hz1⟩ := HAH.out X hxb.bel
      have HN1 := hide (show Calls Tryz.prog 70 #[.slice (some ⟨lb, loff, none⟩) n cl, .int .i64 (fk : Int), .int .i64 (-1)] X.drew (fun e w' => e = .returned (.int .i64 z1) ∧ X.drew = w') from (hz1 1).1)
      have HL1 := hide (show Calls Tryz.prog 73 #[.slice (some ⟨lb, loff, none⟩) n cl, .int .i64 z1, .int .i64 b] X.drew (fun e w' => e = .returned (.int .i64 (Rn.ah b lv rs k)) ∧ X.drew = w') from (hz1 1).2)
      obtain ⟨x0, x1, x2, x3⟩ := hxb.c
      have xf2 := hxb.f 2
      obtain ⟨lx, hlx⟩ : ∃ lx, Rn.lvl lv rs k = lx := ⟨_, rfl⟩
      obtain ⟨ahv, hahv⟩ : ∃ ahv, Rn.ah b lv rs k = ahv := ⟨_, rfl⟩
      rw [hlx] at cf hX HXB HSQl x1
      rw [hahv] at HL1 HSQl
      obtain ⟨xb, hxe⟩ : ∃ xb, wr.heap.size = xb := ⟨_, rfl⟩
      rw [hxe] at HXB x0 x1 x2 x3 xf2
      have HXE := hide hX
      clear hz1 hxb hlc hc hcl hpl q1 q2 q4 q5 hq hfo hkw hlx hahv hX
      cases hst : Iso.st (c.getD (Rn.lst rs l) 0) with
      | true =>
        rw [hst] at HS HENl HFNl
        generalize hxev : c.getD (Rn.lst rs l) 0 = xe at *
        have HXEV := hide hxev
        clear hxev
        have hpn := HFNl.out rfl
        rw [hlen] at hpn
        rw [hpn] at HP
        clear hst
        go_upto_region 7 with (first
          | (go_at_call 35; refine (HS.out _).mono ?_; rintro e w' ⟨rfl, rfl⟩)
          | (go_at_call 36; refine HP.out.mono ?_; rintro e w' ⟨rfl, rfl⟩))
        rw [HXE.out]
        go_cut [62] from 53 to 62 (fun s62 wx => X.drew.setCell ⟨xb, 2, none⟩ (.int .i64 (Rn.sd lx ahv)) = wx)
        case first =>
          first | (go_region_law (first
            | (go_simp; go_at_call 70; refine HN1.out.mono ?_; rintro e w' ⟨rfl, rfl⟩; go_simp)
            | (go_simp; go_at_call 73; refine HL1.out.mono ?_; rintro e w' ⟨rfl, rfl⟩; go_simp)
            | (go_simp; go_at_call 72; refine (HSI.out _ _ _).mono ?_; rintro e w' ⟨rfl, rfl⟩; go_simp))) | fail
          all_goals
            go_wp2
            go_meet
            exact rfl
        have hxy : XB w W1 wc xb g L cp (Rn.plc rs (Rn.chn (Rn.fo mt rs) (t + 1) k)) lx (Rn.sd lx ahv) 0 := by rw [← hcut]; exact HXB.out.drew.setY _
        clear hcut x0 x1 x2 x3 xf2 HN1 HL1 HXB
        obtain ⟨z2, hz2⟩ := HBHl.out wc hxy.bel
        obtain ⟨bv, hbv⟩ : ∃ bv, (if l = rs.length - 1 then b else Rn.lvl lv rs (l + 1)) = bv := ⟨_, rfl⟩
        rw [hbv] at hz2
        have HN2 := hide (show Calls Tryz.prog 70 #[.slice (some ⟨lb, loff, none⟩) n cl, .int .i64 (Rn.lst rs l : Int), .int .i64 1] wc.drew (fun e w' => e = .returned (.int .i64 z2) ∧ wc.drew = w') from (hz2 1).1)
        have HL2 := hide (show Calls Tryz.prog 73 #[.slice (some ⟨lb, loff, none⟩) n cl, .int .i64 z2, .int .i64 b] wc.drew (fun e w' => e = .returned (.int .i64 bv) ∧ wc.drew = w') from (hz2 1).2)
        obtain ⟨x0, x1, x2, x3⟩ := hxy.c
        have xf3 := hxy.f 3
        have HXY := hide hxy
        have HBV := hide hbv
        clear hz2 hxy hbv
        go_upto_region 8 with fail
        go_cut [72] from 63 to 72 (fun s72 wx => wc.drew.setCell ⟨xb, 3, none⟩ (.int .i64 (Rn.sd lx bv)) = wx)
        case first =>
          first | (go_region_law (first
            | (go_simp; go_at_call 70; refine HN2.out.mono ?_; rintro e w' ⟨rfl, rfl⟩; go_simp)
            | (go_simp; go_at_call 73; refine HL2.out.mono ?_; rintro e w' ⟨rfl, rfl⟩; go_simp)
            | (go_simp; go_at_call 72; refine (HSI.out _ _ _).mono ?_; rintro e w' ⟨rfl, rfl⟩; go_simp))) | fail
          all_goals
            go_wp2
            go_meet
            exact rfl
        have hxz : XB w W1 wc xb g L cp (Rn.plc rs (Rn.chn (Rn.fo mt rs) (t + 1) k)) lx (Rn.sd lx ahv) (Rn.sd lx bv) := by rw [← hcut]; exact HXY.out.drew.setZ _
        clear hcut x0 x1 x2 x3 xf3 HN2 HL2 HXY
        obtain ⟨y0, y1, y2, y3⟩ := hxz.c
        have yf3 := hxz.f 3
        obtain ⟨r0, r1, r2, r3⟩ := hxz.rc
        have rf0 := hxz.rf 0
        have rf1 := hxz.rf 1
        have rf2 := hxz.rf 2
        have rf3 := hxz.rf 3
        have cend : wc.cell? ⟨bb, off + Rn.lst rs l, none⟩ = some (.int .i64 xe) := by
          have h1 := (H.out.below hxz.bel).cells (by omega)
          obtain ⟨b1, o1, e1, _, hc1⟩ := h1
          simp only [Option.some.injEq, Addr.mk.injEq, and_true] at e1
          obtain ⟨rfl, rfl⟩ := e1
          have := hc1 (Rn.lst rs l) (by rw [hlen]; exact hln)
          rw [HXEV.out] at this
          exact this
        have hxr : ¬ xb = w.heap.size := by have := hxz.le; omega
        have hxr2 : ¬ w.heap.size = xb := fun e => hxr e.symm
        have hqs := HSQl.out
        have hbh : Rn.bh b lv mt rs l = b := by unfold Rn.bh; rw [HENl.out]; split <;> rfl
        rw [hbh] at hqs
        have hxw := hxz.setZ (Rn.sd lx b)
        obtain ⟨P, hP⟩ : ∃ P, wc.setCell ⟨xb, 3, none⟩ (.int .i64 (Rn.sd lx b)) = P := ⟨_, rfl⟩
        rw [hP] at hxw
        obtain ⟨p0, p1, p2, p3⟩ := hxw.c
        obtain ⟨s0, s1, s2, s3⟩ := hxw.rc
        have sf0 := hxw.rf 0
        have sf1 := hxw.rf 1
        have sf2 := hxw.rf 2
        have sf3 := hxw.rf 3
        have HXW := hide hxw
        have HQS := hide hqs
        have hg := (hxw.own.lt g rfl).1
        clear hxz hqs hbh hxw
        go_wp2_with (first
          | (go_at_call 35; refine (HS.out _).mono ?_; rintro e w' ⟨rfl, rfl⟩)
          | (go_at_call 72; refine (HSI.out _ _ _).mono ?_; rintro e w' ⟨rfl, rfl⟩))
        have hne : ¬ g = w.heap.size := by omega
        have hqq := HXW.out.hr
        have hb9 := HXW.out.bel
        have hes := HQS.out
        subst hes
        exact bodyPost_ret (sresults1 Tryz.results43 _ _ _ w.heap.size _ rfl (seq_out hqq g L cp lx _ _)) rfl ⟨g, cp, by rw [← HQLL.out], by
          rw [← HQLL.out]
          exact owns_mono (owns_other (owns_other (owns_other (owns_other HXW.out.own hne) hne) hne) hne) (show w.heap.size ≤ w.heap.size + 1 by omega), (((hb9.setCell (p := ⟨w.heap.size, 0, none⟩) (Nat.le_refl _) _).setCell (p := ⟨w.heap.size, 1, none⟩) (Nat.le_refl _) _).setCell (p := ⟨w.heap.size, 2, none⟩) (Nat.le_refl _) _).setCell (p := ⟨w.heap.size, 3, none⟩) (Nat.le_refl _) _⟩
      | false =>
        rw [hst] at HS HENl HFNl
        generalize hxev : c.getD (Rn.lst rs l) 0 = xe at *
        have HXEV := hide hxev
        clear hxev
        skip
        clear hst
        go_upto_region 7 with (first
          | (go_at_call 35; refine (HS.out _).mono ?_; rintro e w' ⟨rfl, rfl⟩)
          | (go_at_call 36; refine HP.out.mono ?_; rintro e w' ⟨rfl, rfl⟩))
        rw [HXE.out]
        go_cut [62] from 53 to 62 (fun s62 wx => X.drew.setCell ⟨xb, 2, none⟩ (.int .i64 (Rn.sd lx ahv)) = wx)
        case first =>
          first | (go_region_law (first
            | (go_simp; go_at_call 70; refine HN1.out.mono ?_; rintro e w' ⟨rfl, rfl⟩; go_simp)
            | (go_simp; go_at_call 73; refine HL1.out.mono ?_; rintro e w' ⟨rfl, rfl⟩; go_simp)
            | (go_simp; go_at_call 72; refine (HSI.out _ _ _).mono ?_; rintro e w' ⟨rfl, rfl⟩; go_simp))) | fail
          all_goals
            go_wp2
            go_meet
            exact rfl
        have hxy : XB w W1 wc xb g L cp (Rn.plc rs (Rn.chn (Rn.fo mt rs) (t + 1) k)) lx (Rn.sd lx ahv) 0 := by rw [← hcut]; exact HXB.out.drew.setY _
        clear hcut x0 x1 x2 x3 xf2 HN1 HL1 HXB
        obtain ⟨z2, hz2⟩ := HBHl.out wc hxy.bel
        obtain ⟨bv, hbv⟩ : ∃ bv, (if l = rs.length - 1 then b else Rn.lvl lv rs (l + 1)) = bv := ⟨_, rfl⟩
        rw [hbv] at hz2
        have HN2 := hide (show Calls Tryz.prog 70 #[.slice (some ⟨lb, loff, none⟩) n cl, .int .i64 (Rn.lst rs l : Int), .int .i64 1] wc.drew (fun e w' => e = .returned (.int .i64 z2) ∧ wc.drew = w') from (hz2 1).1)
        have HL2 := hide (show Calls Tryz.prog 73 #[.slice (some ⟨lb, loff, none⟩) n cl, .int .i64 z2, .int .i64 b] wc.drew (fun e w' => e = .returned (.int .i64 bv) ∧ wc.drew = w') from (hz2 1).2)
        obtain ⟨x0, x1, x2, x3⟩ := hxy.c
        have xf3 := hxy.f 3
        have HXY := hide hxy
        have HBV := hide hbv
        clear hz2 hxy hbv
        go_upto_region 8 with fail
        go_cut [72] from 63 to 72 (fun s72 wx => wc.drew.setCell ⟨xb, 3, none⟩ (.int .i64 (Rn.sd lx bv)) = wx)
        case first =>
          first | (go_region_law (first
            | (go_simp; go_at_call 70; refine HN2.out.mono ?_; rintro e w' ⟨rfl, rfl⟩; go_simp)
            | (go_simp; go_at_call 73; refine HL2.out.mono ?_; rintro e w' ⟨rfl, rfl⟩; go_simp)
            | (go_simp; go_at_call 72; refine (HSI.out _ _ _).mono ?_; rintro e w' ⟨rfl, rfl⟩; go_simp))) | fail
          all_goals
            go_wp2
            go_meet
            exact rfl
        have hxz : XB w W1 wc xb g L cp (Rn.plc rs (Rn.chn (Rn.fo mt rs) (t + 1) k)) lx (Rn.sd lx ahv) (Rn.sd lx bv) := by rw [← hcut]; exact HXY.out.drew.setZ _
        clear hcut x0 x1 x2 x3 xf3 HN2 HL2 HXY
        obtain ⟨y0, y1, y2, y3⟩ := hxz.c
        have yf3 := hxz.f 3
        obtain ⟨r0, r1, r2, r3⟩ := hxz.rc
        have rf0 := hxz.rf 0
        have rf1 := hxz.rf 1
        have rf2 := hxz.rf 2
        have rf3 := hxz.rf 3
        have cend : wc.cell? ⟨bb, off + Rn.lst rs l, none⟩ = some (.int .i64 xe) := by
          have h1 := (H.out.below hxz.bel).cells (by omega)
          obtain ⟨b1, o1, e1, _, hc1⟩ := h1
          simp only [Option.some.injEq, Addr.mk.injEq, and_true] at e1
          obtain ⟨rfl, rfl⟩ := e1
          have := hc1 (Rn.lst rs l) (by rw [hlen]; exact hln)
          rw [HXEV.out] at this
          exact this
        have hxr : ¬ xb = w.heap.size := by have := hxz.le; omega
        have hxr2 : ¬ w.heap.size = xb := fun e => hxr e.symm
        have hqs := HSQl.out
        have hbh : Rn.bh b lv mt rs l = bv := by unfold Rn.bh; rw [HENl.out]; rw [← HBV.out]; rfl
        rw [hbh] at hqs
        have HXW := hide hxz
        have HQS := hide hqs
        have hg := (hxz.own.lt g rfl).1
        clear hxz hqs hbh
        go_wp2_with (go_at_call 35; refine (HS.out _).mono ?_; rintro e w' ⟨rfl, rfl⟩)
        have hne : ¬ g = w.heap.size := by omega
        have hqq := HXW.out.hr
        have hb9 := HXW.out.bel
        have hes := HQS.out
        subst hes
        exact bodyPost_ret (sresults1 Tryz.results43 _ _ _ w.heap.size _ rfl (seq_out hqq g L cp lx _ _)) rfl ⟨g, cp, by rw [← HQLL.out], by
          rw [← HQLL.out]
          exact owns_mono (owns_other (owns_other (owns_other (owns_other HXW.out.own hne) hne) hne) hne) (show w.heap.size ≤ w.heap.size + 1 by omega), (((hb9.setCell (p := ⟨w.heap.size, 0, none⟩) (Nat.le_refl _) _).setCell (p := ⟨w.heap.size, 1, none⟩) (Nat.le_refl _) _).setCell (p := ⟨w.heap.size, 2, none⟩) (Nat.le_refl _) _).setCell (p := ⟨w.heap.size, 3, none⟩) (Nat.le_refl _) _⟩
end
end Go.Proofs.YtfadjgaledddjaaGreatDoor

/- The document's Sequences. -/
namespace Go.Proofs.YtfadjgaledddjaaGreatDoor
open Go.RowKit Go.Maps
set_option linter.unusedVariables false
set_option maxHeartbeats 1000000
set_option maxRecDepth 100000
theorem refsequences_arg (ao : Option Addr) (n cap : Nat) (b : Int) (w : World) (hb : ¬ b = 0 ∧ ¬ b = 1) :
    Calls Tryz.prog 24 #[.slice ao n cap, .int .i64 b] w fun e w' => e = .returned (.tuple #[.slice none 0 0, .int .i64 2]) ∧ w = w' := by
  have HR := hide (rresolve_arg ao n cap b w hb)
  go_enter Tryz.func24, Tryz.ntmps24
  go_wp2_with (go_at_call 23; refine HR.out.mono ?_; rintro e w' ⟨rfl, rfl⟩)
  go_ret2
  exact ⟨rfl, rfl⟩
theorem refsequences_form (ao : Option Addr) (n cap : Nat) (c : List Int) (b : Int) (w : World) (h : Row .i64 w ao n cap c) (hn : n ≤ 300) (hb : b = 0 ∨ b = 1) (hF : ¬ Ex.Formed c) :
    Calls Tryz.prog 24 #[.slice ao n cap, .int .i64 b] w fun e w' => e = .returned (.tuple #[.slice none 0 0, .int .i64 50]) ∧ w = w' := by
  have HR := hide (rresolve_form ao n cap c b w h hn hb hF)
  clear h hn hb hF
  go_enter Tryz.func24, Tryz.ntmps24
  go_wp2_with (go_at_call 23; refine HR.out.mono ?_; rintro e w' ⟨rfl, rfl⟩)
  go_ret2
  exact ⟨rfl, rfl⟩
/-- What the document's Sequences keeps. -/
structure RI8 (W : World) (b : Int) (lv mt : List Int) (rs : List (List Nat)) (i j : Nat) (v : Value) (wr : World) : Prop where
  done : ∀ j', j' < j → Rn.fst rs j' < i
  next : j < rs.length → i ≤ Rn.fst rs j
  so : ∃ hs, SO W.heap.size wr v hs (Rn.sqs b lv mt rs j)
  bel : Below W.heap.size W wr
theorem refsequences_own (ao : Option Addr) (n cap0 : Nat) (c : List Int) (b : Int) (w : World) (h : Row .i64 w ao n cap0 c) (hn : n ≤ 300) (hb : b = 0 ∨ b = 1) (hF : Ex.Formed c) :
    Calls Tryz.prog 24 #[.slice ao n cap0, .int .i64 b] w fun e w' => ∃ sa cs, e = .returned (.tuple #[.slice sa (Rn.sqs b (Ex.LV b c) (Iso.MT c) (Rn.RS (Ex.LV b c)) (Rn.RS (Ex.LV b c)).length).length cs, .int .i64 0]) ∧ (∃ hs, SO w.heap.size w' (.slice sa (Rn.sqs b (Ex.LV b c) (Iso.MT c) (Rn.RS (Ex.LV b c)) (Rn.RS (Ex.LV b c)).length).length cs) hs (Rn.sqs b (Ex.LV b c) (Iso.MT c) (Rn.RS (Ex.LV b c)) (Rn.RS (Ex.LV b c)).length)) ∧ Below w.heap.size w w' := by
  have hlen := h.len
  have HL := hide hlen
  have H := hide h
  have hR := Rn.runs_of (Ex.LV b c)
  have HRE := hide (rresolve_ok ao n cap0 c b w h hn hb hF)
  have HSE := hide (fun (W : World) (al : Option Addr) (cl : Nat) (hw : KO w W) (h' : Row .i64 W al n cl (Ex.LV b c)) k (hk : k < (Rn.RS (Ex.LV b c)).length) => refsequence_any (h.below hw) h' hn hb hF hk)
  have HOW := hide (fun (W : World) (hw : KO w W) j (hj : j < (Rn.RS (Ex.LV b c)).length) => (show Calls Tryz.prog 42 #[.slice ao n cap0, .int .i64 (Rn.fst (Rn.RS (Ex.LV b c)) j : Int)] W fun e w' => e = .returned (.bool (!(Rn.bg (Iso.MT c) (Rn.RS (Ex.LV b c)) j))) ∧ W = w' from by
    have hf := (Rn.fst_kept hR hj).1
    rw [Ex.LV_len] at hf
    refine refowned_any (h.below hw) hn (by omega) _ ?_
    rw [← Rn.bg_iff hf]
    cases Rn.bg (Iso.MT c) (Rn.RS (Ex.LV b c)) j <;> simp))
  have HR := hide hR
  have HLVL := hide (Ex.LV_len b c)
  have hNl : (Rn.RS (Ex.LV b c)).length ≤ n := by
    have h2 := Rn.R_len (Ex.LV b c) (Ex.LV b c).length
    rw [Ex.LV_len] at h2
    unfold Rn.RS
    rw [Ex.LV_len]
    omega
  have hbs := build_seq1
  obtain ⟨ii, hii, hy0, hy1, hy2⟩ := info_parts seqInfo3
  have HII := hide hii
  have HY0 := hide hy0
  have HY1 := hide hy1
  have HY2 := hide hy2
  generalize Rn.RS (Ex.LV b c) = rs at *
  generalize Ex.LV b c = lv at *
  generalize Iso.MT c = mt at *
  clear h hF hR hii hy0 hy1 hy2 hb
  go_enter Tryz.func24, Tryz.ntmps24
  go_wp2_with fail
  refine HRE.out.mono ?_
  rintro e W ⟨al, cl, at', ct, rfl, rl, _, hb1⟩
  have HRL := hide rl
  have HB := hide hb1
  have HKW : Hid (KO w W) := hb1
  clear rl hb1 HRE
  go_wp2
  go_loopw [9, 10] (fun s9 s10 wr => ∃ i j : Nat, i ≤ n ∧ j ≤ rs.length ∧ s10 = .int .i64 (i : Int) ∧ Hid (RI8 W b lv mt rs i j s9 wr)) (fun _ s10 _ => n - (intOf s10).toNat)
  case atStart => exact ⟨0, 0, Nat.zero_le _, Nat.zero_le _, rfl, hide ⟨fun j' h => by omega, fun _ => Nat.zero_le _, ⟨[], SO.begin _ _⟩, Below.refl _ _⟩⟩
  case round =>
    obtain ⟨i, j, hi, hj, rfl, hq⟩ := hrel
    have HQ := hide hq.out
    obtain ⟨hs, hso⟩ := hq.out.so
    have hbw := hq.out.bel
    clear hq
    obtain ⟨av, cv, rfl, hav⟩ := owns_form hso.oa
    have hsl := Rn.sqs_len b lv mt rs j
    by_cases hin : i < n
    · have hin2 : (i : Int) < (n : Int) := by omega
      have hrow := HRL.out.below hbw
      by_cases hyes : j < rs.length ∧ Rn.fst rs j = i
      · obtain ⟨hj1, hj2⟩ := hyes
        have hfy := rfirst_yes hrow (by omega) HR.out hj1
        rw [hj2] at hfy
        have HFY := hide hfy
        have hnext : j + 1 < rs.length → i + 1 ≤ Rn.fst rs (j + 1) := fun hjn => by have h1 := Rn.lst_fst HR.out (j + 1) j (by omega) hjn; have h2 := (Rn.run_le HR.out hj1 (HR.out.pos j hj1)).2; have e : (Rn.rn rs j).getD 0 0 = Rn.fst rs j := rfl; omega
        have hdone : ∀ j', j' < j + 1 → Rn.fst rs j' < i + 1 := fun j' h' => by
          by_cases e : j' = j
          · subst e; omega
          · have := HQ.out.done j' (by omega); omega
        have HND := hide (And.intro hnext hdone)
        have HOWJ := hide (fun q => by
          have := HOW.out (wr.drewN q) (KO.on (KO.on HKW.out hbw) (below_drewN wr q)) j hj1
          rw [hj2] at this
          exact this)
        have HSEJ := hide (fun q => by
          have := HSE.out (wr.drewN q) al cl (KO.on (KO.on HKW.out hbw) (below_drewN wr q)) (hrow.below (below_drewN wr q)) j hj1
          rw [hj2] at this
          exact this)
        have hszX : W.heap.size ≤ wr.heap.size := hbw.size
        have HBW := hide (show ∀ q, Below W.heap.size W (wr.drewN q) from fun q => KO.on hbw (below_drewN wr q))
        have HSO := hide (show ∀ q, SO W.heap.size (wr.drewN q) (.slice av (Rn.sqs b lv mt rs j).length cv) hs (Rn.sqs b lv mt rs j) from fun q => hso.below (below_drewN wr q))
        have HOA := hide hso.oa
        cases hbg : Rn.bg mt rs j with
        | false =>
          rw [hbg] at HOWJ
          have HE := hide (show ∀ q, RI8 W b lv mt rs (i + 1) (j + 1) (.slice av (Rn.sqs b lv mt rs j).length cv) (wr.drewN q) from fun q => ⟨hdone, hnext, ⟨hs, by rw [Rn.sqs_no hbg]; exact HSO.out q⟩, HBW.out q⟩)
          clear hfy hnext hdone hso hbw hrow hbg HSEJ HSO HBW HOA HQ
          generalize (Rn.sqs b lv mt rs j).length = L at *
          go_wp2_with (first
            | (go_at_call 41; refine HFY.out.mono ?_; rintro e w1 ⟨rfl, qa, rfl⟩)
            | (go_at_call 42; refine (HOWJ.out _).mono ?_; rintro e w1 ⟨rfl, rfl⟩))
          exact ⟨⟨i + 1, j + 1, by omega, by omega, by go_num, hide (HE.out qa)⟩, by simp [intOf]; omega⟩
        | true =>
          rw [hbg] at HOWJ
          have HSY := hide (Rn.sqs_yes (b := b) (lv := lv) hbg)
          obtain ⟨s, hse⟩ : ∃ s, Rn.sq b lv mt rs j = s := ⟨_, rfl⟩
          rw [hse] at HSY HSEJ
          obtain ⟨ps, x, y, z⟩ := s
          simp only at HSEJ
          generalize hLL : (Rn.sqs b lv mt rs j).length = L at *
          have HLE := hide hLL
          clear hfy hnext hdone hso hbw hrow hbg HQ hLL hse
          go_wp2_with (first
            | (go_at_call 41; refine HFY.out.mono ?_; rintro e w1 ⟨rfl, qa, rfl⟩)
            | (go_at_call 42; refine (HOWJ.out _).mono ?_; rintro e w1 ⟨rfl, rfl⟩)
            | (go_at_call 43; refine (HSEJ.out _).mono ?_; rintro e w6 ⟨g6, c6, rfl, how6, hb6⟩; have hs6 := (HSO.out qa).below hb6; have hz6 : wr.heap.size ≤ w6.heap.size := hb6.size)
            | (at_builtin; refine wpList_append_own_at _ rfl (.tmp 36) (.tmp 42) 52 rfl W.heap.size 57 ii _ 4 48 Tryz.underlying52 HII.out HY0.out HY1.out HY2.out rfl (by decide) (.slice av L cv) L (scs hs (Rn.sqs b lv mt rs j)) rfl (show (w6.alloc (.cells (sc (g6, c6) ⟨ps, x, y, z⟩).toArray 57)).ownsRow W.heap.size 57 4 (.slice av L cv) L (scs hs (Rn.sqs b lv mt rs j)) from (by have := hs6.oa; rw [HLE.out] at this; exact this.alloc _)) ⟨w6.heap.size, 0, none⟩ 1 1 (sc (g6, c6) ⟨ps, x, y, z⟩) rfl rfl (cells_new w6 (sc (g6, c6) ⟨ps, x, y, z⟩) 57) (sc_one _ _) (by unfold maxLen; omega) (by omega) (by simp; omega) ?_; intro v7 w7 ho7 hg7 _ _; obtain ⟨g7, c7, rfl, _, _⟩ := owns_pos ho7 (by omega)))
          refine ⟨⟨i + 1, j + 1, by omega, by omega, by go_num, hide ⟨HND.out.2, HND.out.1, ⟨hs ++ [(g6, c6)], ?_⟩, ?_⟩⟩, by simp [intOf]; omega⟩
          · rw [HSY.out]
            refine (hs6.below ((Below.refl _ _).alloc (Nat.le_refl _) _)).push (s := ⟨ps, x, y, z⟩) (owns_below (owns_mono how6 hszX) ((Below.refl _ _).alloc (Nat.le_refl _) _)) ?_ hg7
            rw [HLE.out]
            exact ho7
          · exact grown_alloc ((HBW.out qa).trans (hb6.mono hszX)) (by omega) hg7 (fun q hq => (HOA.out.lt q hq).1)
      · have HFN : Hid (Calls Tryz.prog 41 #[.slice al n cl, .int .i64 (i : Int)] wr fun e w' => e = .returned (.bool false) ∧ ∃ q, w' = wr.drewN q) := by
          by_cases hneg : lv.getD i 0 < 0
          · exact rfirst_neg hrow hin hneg
          · obtain ⟨j', m, h1, h2, h3⟩ := HR.out.cover i (by rw [HLVL.out, HL.out]; exact hin) (show decide (0 ≤ lv.getD i 0) = true from decide_eq_true (by omega))
            by_cases hm0 : m = 0
            · exfalso
              subst hm0
              have e : Rn.fst rs j' = i := h3
              by_cases c1 : j' < j
              · have := HQ.out.done j' c1; omega
              · by_cases c2 : j' = j
                · subst c2; exact hyes ⟨h1, e⟩
                · have h4 := Rn.lst_fst HR.out j' j (by omega) h1
                  have h5 := (Rn.run_le HR.out (show j < rs.length by omega) (HR.out.pos j (by omega))).2
                  have e' : (Rn.rn rs j).getD 0 0 = Rn.fst rs j := rfl
                  have h6 := HQ.out.next (by omega)
                  omega
            · obtain ⟨m', rfl⟩ : ∃ m', m = m' + 1 := ⟨m - 1, by omega⟩
              rw [← h3]
              exact rfirst_in hrow (by omega) HR.out h1 h2
        have HE := hide (show ∀ q, RI8 W b lv mt rs (i + 1) j (.slice av (Rn.sqs b lv mt rs j).length cv) (wr.drewN q) from fun q => ⟨fun j' h => by have := HQ.out.done j' h; omega, fun h => by have h1 := HQ.out.next h; by_cases e : Rn.fst rs j = i; exact absurd ⟨h, e⟩ hyes; omega, ⟨hs, hso.below (below_drewN wr q)⟩, KO.on hbw (below_drewN wr q)⟩)
        clear hso hbw hrow hyes HQ
        generalize (Rn.sqs b lv mt rs j).length = L at *
        go_wp2_with (go_at_call 41; refine HFN.out.mono ?_; rintro e w1 ⟨rfl, qa, rfl⟩)
        exact ⟨⟨i + 1, j, by omega, by omega, by go_num, hide (HE.out qa)⟩, by simp [intOf]; omega⟩
    · obtain rfl : i = n := by omega
      have hne : ¬ ((i : Int) < (i : Int)) := by omega
      have hje : j = rs.length := by
        by_cases e : j < rs.length
        · have h1 := HQ.out.next e
          have h2 := (Rn.fst_kept HR.out e).1
          rw [HLVL.out, HL.out] at h2
          omega
        · omega
      subst hje
      have HSL := hide (show ∃ hs, SO w.heap.size wr (.slice av (Rn.sqs b lv mt rs rs.length).length cv) hs (Rn.sqs b lv mt rs rs.length) from ⟨hs, hso.mono HKW.out.size⟩)
      have HBE := hide (KO.on HKW.out hbw)
      clear hso hbw HQ hav
      generalize hLL : (Rn.sqs b lv mt rs rs.length).length = L at *
      have HLE := hide hLL
      clear hLL
      go_wp2
      go_ret2
      have hq := HLE.out
      subst hq
      exact ⟨av, cv, rfl, HSL.out, HBE.out⟩
theorem refsequences_ok (ao : Option Addr) (n cap0 : Nat) (c : List Int) (b : Int) (w : World) (h : Row .i64 w ao n cap0 c) (hn : n ≤ 300) (hb : b = 0 ∨ b = 1) (hF : Ex.Formed c) :
    Calls Tryz.prog 24 #[.slice ao n cap0, .int .i64 b] w fun e w' => ∃ sa cs, e = .returned (.tuple #[.slice sa (Rn.sqs b (Ex.LV b c) (Iso.MT c) (Rn.RS (Ex.LV b c)) (Rn.RS (Ex.LV b c)).length).length cs, .int .i64 0]) ∧ SL w' sa (Rn.sqs b (Ex.LV b c) (Iso.MT c) (Rn.RS (Ex.LV b c)) (Rn.RS (Ex.LV b c)).length).length cs (Rn.sqs b (Ex.LV b c) (Iso.MT c) (Rn.RS (Ex.LV b c)) (Rn.RS (Ex.LV b c)).length) ∧ Below w.heap.size w w' := by
  refine (refsequences_own ao n cap0 c b w h hn hb hF).mono ?_
  rintro e w' ⟨sa, cs, he, ⟨hs, hso⟩, hb⟩
  obtain ⟨a2, c2, e2, hsl⟩ := hso.view
  cases e2
  exact ⟨sa, cs, he, hsl, hb⟩
end Go.Proofs.YtfadjgaledddjaaGreatDoor
