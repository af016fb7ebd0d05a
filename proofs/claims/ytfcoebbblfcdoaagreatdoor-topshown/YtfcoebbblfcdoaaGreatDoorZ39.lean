import Derived.Test.YtfcoebbblfcdoaaGreatDoorZ13
import Derived.Test.YtfcoebbblfcdoaaGreatDoorZ07
import Derived.Test.YtfcoebbblfcdoaaGreatDoorZ10
import Derived.Test.YtfcoebbblfcdoaaGreatDoorZ32
/- The document's neighbour, first, run. -/
namespace Go.Proofs.YtfcoebbblfcdoaaGreatDoor
open Go.RowKit Go.Maps
set_option linter.unusedVariables false
set_option maxHeartbeats 1000000
set_option maxRecDepth 100000
section
variable {lv : List Int} {ao : Option Addr} {n cap : Nat} {w : World}
theorem nb_up_some (h : Row .i64 w ao n cap lv) (hn : n <= 2000) {i y : Nat} (hiy : i < y) (hy : y < n) (hk : 0 <= lv.getD y 0) (hz : ∀ z, i < z -> z < y -> lv.getD z 0 < 0) :
  Calls Tryz.prog 88 #[.slice ao n cap, .int .i64 (i : Int), .int .i64 1] w fun e w' => e = .returned (.int .i64 (y : Int)) /\ w = w' := by
 obtain ⟨b, off, rfl, hbl, hc⟩ := h.cells (by omega)
 have hl := h.len
 have HC := hide hc
 have HL := hide hl
 clear h hc hl
 go_enter Tryz.func88, Tryz.ntmps88
 go_wp2
 go_loopw [7] (fun s7 wr => ∃ z : Nat, i < z /\ z <= y /\ s7 = .int .i64 (z : Int) /\ w = wr) (fun s7 _ => y - (intOf s7).toNat)
 case atStart => exact ⟨i + 1, by omega, by omega, by go_num, rfl⟩
 case round =>
  obtain ⟨z, hz1, hz2, rfl, rfl⟩ := hrel
  have hzn : (z : Int) < (n : Int) := by omega
  have cz := HC.out z (by rw [HL.out]; omega)
  by_cases hzy : z < y
  ·have hneg := hz z hz1 hzy
   generalize lv.getD z 0 = x at *
   have hneg2 : ¬ (0 : Int) <= x := by omega
   clear hz
   go_wp2
   exact ⟨⟨z + 1, by omega, by omega, by go_num, trivial⟩, by simp [intOf]; omega⟩
  ·obtain rfl : z = y := by omega
   generalize lv.getD z 0 = x at *
   clear hz
   go_wp2
   go_ret
   exact ⟨rfl, rfl⟩
theorem nb_up_none (h : Row .i64 w ao n cap lv) (hn : n <= 2000) {i : Nat} (hi : i < n) (hz : ∀ z, i < z -> z < n -> lv.getD z 0 < 0) :
  Calls Tryz.prog 88 #[.slice ao n cap, .int .i64 (i : Int), .int .i64 1] w fun e w' => e = .returned (.int .i64 (-1)) /\ w = w' := by
 obtain ⟨b, off, rfl, hbl, hc⟩ := h.cells (by omega)
 have hl := h.len
 have HC := hide hc
 have HL := hide hl
 clear h hc hl
 go_enter Tryz.func88, Tryz.ntmps88
 go_wp2
 go_loopw [7] (fun s7 wr => ∃ z : Nat, i < z /\ z <= n /\ s7 = .int .i64 (z : Int) /\ w = wr) (fun s7 _ => n - (intOf s7).toNat)
 case atStart => exact ⟨i + 1, by omega, by omega, by go_num, rfl⟩
 case round =>
  obtain ⟨z, hz1, hz2, rfl, rfl⟩ := hrel
  by_cases hzy : z < n
  ·have hzn : (z : Int) < (n : Int) := by omega
   have cz := HC.out z (by rw [HL.out]; omega)
   have hneg := hz z hz1 hzy
   generalize lv.getD z 0 = x at *
   have hneg2 : ¬ (0 : Int) <= x := by omega
   clear hz
   go_wp2
   exact ⟨⟨z + 1, by omega, by omega, by go_num, trivial⟩, by simp [intOf]; omega⟩
  ·obtain rfl : z = n := by omega
   have hne : ¬ ((z : Int) < (z : Int)) := by omega
   clear hz
   go_wp2
   go_ret
   exact ⟨rfl, rfl⟩
theorem nb_dn_some (h : Row .i64 w ao n cap lv) (hn : n <= 2000) {i y : Nat} (hiy : y < i) (hi : i < n) (hk : 0 <= lv.getD y 0) (hz : ∀ z, y < z -> z < i -> lv.getD z 0 < 0) :
  Calls Tryz.prog 88 #[.slice ao n cap, .int .i64 (i : Int), .int .i64 (-1)] w fun e w' => e = .returned (.int .i64 (y : Int)) /\ w = w' := by
 obtain ⟨b, off, rfl, hbl, hc⟩ := h.cells (by omega)
 have hl := h.len
 have HC := hide hc
 have HL := hide hl
 clear h hc hl
 obtain ⟨i', rfl⟩ : ∃ i', i = i' + 1 := ⟨i - 1, by omega⟩
 go_enter Tryz.func88, Tryz.ntmps88
 go_wp2
 go_loopw [7] (fun s7 wr => ∃ z : Nat, y <= z /\ z <= i' /\ s7 = .int .i64 (z : Int) /\ w = wr) (fun s7 _ => (intOf s7).toNat)
 case atStart => exact ⟨i', by omega, by omega, by go_num, rfl⟩
 case round =>
  obtain ⟨z, hz1, hz2, rfl, rfl⟩ := hrel
  have hzn : (z : Int) < (n : Int) := by omega
  have hz0 : (0 : Int) <= (z : Int) := by omega
  have cz := HC.out z (by rw [HL.out]; omega)
  by_cases hzy : y < z
  ·have hneg := hz z hzy (by omega)
   obtain ⟨z', rfl⟩ : ∃ z', z = z' + 1 := ⟨z - 1, by omega⟩
   generalize lv.getD (z' + 1) 0 = x at *
   have hneg2 : ¬ (0 : Int) <= x := by omega
   clear hz
   go_wp2
   refine ⟨⟨z', by omega, by omega, by omega⟩, ?_⟩
   show max ((z' : Int) + 1 + -1) 0 < (z' : Int) + 1
   omega
  ·obtain rfl : z = y := by omega
   generalize lv.getD z 0 = x at *
   clear hz
   go_wp2
   go_ret
   exact ⟨rfl, rfl⟩
theorem nb_dn_none (h : Row .i64 w ao n cap lv) (hn : n <= 2000) {i : Nat} (hi : i < n) (hz : ∀ z, z < i -> lv.getD z 0 < 0) :
  Calls Tryz.prog 88 #[.slice ao n cap, .int .i64 (i : Int), .int .i64 (-1)] w fun e w' => e = .returned (.int .i64 (-1)) /\ w = w' := by
 obtain ⟨b, off, rfl, hbl, hc⟩ := h.cells (by omega)
 have hl := h.len
 have HC := hide hc
 have HL := hide hl
 clear h hc hl
 go_enter Tryz.func88, Tryz.ntmps88
 go_wp2
 go_loopw [7] (fun s7 wr => ∃ z : Nat, z <= i /\ s7 = .int .i64 ((z : Int) - 1) /\ w = wr) (fun s7 _ => (intOf s7 + 1).toNat)
 case atStart => exact ⟨i, Nat.le_refl _, by go_num, rfl⟩
 case round =>
  obtain ⟨z, hz2, rfl, rfl⟩ := hrel
  by_cases hzy : 0 < z
  ·obtain ⟨z', rfl⟩ : ∃ z', z = z' + 1 := ⟨z - 1, by omega⟩
   have hzn : (z' : Int) < (n : Int) := by omega
   have e1 : ((z' + 1 : Nat) : Int) - 1 = (z' : Int) := by omega
   rw [e1]
   have cz := HC.out z' (by rw [HL.out]; omega)
   have hneg := hz z' (by omega)
   generalize lv.getD z' 0 = x at *
   have hneg2 : ¬ (0 : Int) <= x := by omega
   clear hz
   go_wp2
   exact ⟨⟨z', by omega, by go_num, trivial⟩, by simp [intOf]; omega⟩
  ·obtain rfl : z = 0 := by omega
   clear hz
   go_wp2
   go_ret
   exact ⟨rfl, rfl⟩
end
end Go.Proofs.YtfcoebbblfcdoaaGreatDoor

/- The document's first, run. -/
namespace Go.Proofs.YtfcoebbblfcdoaaGreatDoor
open Go.RowKit Go.Maps
set_option linter.unusedVariables false
set_option maxHeartbeats 1000000
set_option maxRecDepth 100000
section
variable {lv : List Int} {rs : List (List Nat)} {ao : Option Addr} {n cap : Nat} {w : World}
theorem kp_false {z : Nat} (h : Rn.kp lv z = false) : lv.getD z 0 < 0 := by unfold Rn.kp at h; simpa using h
theorem kp_true {z : Nat} (h : Rn.kp lv z = true) : 0 <= lv.getD z 0 := by unfold Rn.kp at h; simpa using h
theorem rfirst_neg (h : Row .i64 w ao n cap lv) {i : Nat} (hi : i < n) (hz : lv.getD i 0 < 0) :
  Calls Tryz.prog 57 #[.slice ao n cap, .int .i64 (i : Int)] w fun e w' => e = .returned (.bool false) /\ ∃ q, w' = w.drewN q := by
 obtain ⟨b, off, rfl, hbl, hc⟩ := h.cells (by omega)
 have ci := hc i (by rw [h.len]; exact hi)
 have hin : (i : Int) < (n : Int) := by omega
 generalize lv.getD i 0 = x at *
 clear h hc
 go_enter Tryz.func57, Tryz.ntmps57
 go_wp2
 go_ret
 exact ⟨rfl, 0, rfl⟩
theorem rfirst_two (h : Row .i64 w ao n cap lv) (hn : n <= 2000) {i y : Nat} (hi : i < n) (hz : 0 <= lv.getD i 0) (hy : y < i) (hk : 0 <= lv.getD y 0) (ha : ∀ z, y < z -> z < i -> lv.getD z 0 < 0) :
  Calls Tryz.prog 57 #[.slice ao n cap, .int .i64 (i : Int)] w fun e w' => e = .returned (.bool (lv.getD y 0 != lv.getD i 0)) /\ ∃ q, w' = w.drewN q := by
 have HN := hide (nb_dn_some h hn hy hi hk ha)
 obtain ⟨b, off, rfl, hbl, hc⟩ := h.cells (by omega)
 have ci := hc i (by rw [h.len]; exact hi)
 have cy := hc y (by rw [h.len]; omega)
 have hin : (i : Int) < (n : Int) := by omega
 have hin2 : (y : Int) < (n : Int) := by omega
 have gg : decide ((y : Int) < 0) = false := decide_eq_false (by omega)
 have gg1 : ¬ (y : Int) < 0 := by omega
 generalize lv.getD i 0 = x at *
 generalize lv.getD y 0 = x' at *
 have hz2 : ¬ x < 0 := by omega
 clear h hc ha
 go_enter Tryz.func57, Tryz.ntmps57
 go_wp2_with fail
 refine HN.out.mono ?_
 rintro e w' ⟨rfl, rfl⟩
 go_wp2
 go_quiet (fail)
 go_wp2
 go_ret
 exact ⟨rfl, _, rfl⟩
theorem rfirst_none (h : Row .i64 w ao n cap lv) (hn : n <= 2000) {i : Nat} (hi : i < n) (hz : 0 <= lv.getD i 0) (ha : ∀ z, z < i -> lv.getD z 0 < 0) :
  Calls Tryz.prog 57 #[.slice ao n cap, .int .i64 (i : Int)] w fun e w' => e = .returned (.bool true) /\ ∃ q, w' = w.drewN q := by
 have HN := hide (nb_dn_none h hn hi ha)
 obtain ⟨b, off, rfl, hbl, hc⟩ := h.cells (by omega)
 have ci := hc i (by rw [h.len]; exact hi)
 have hin : (i : Int) < (n : Int) := by omega
 generalize lv.getD i 0 = x at *
 have hz2 : ¬ x < 0 := by omega
 clear h hc ha
 go_enter Tryz.func57, Tryz.ntmps57
 go_wp2_with fail
 refine HN.out.mono ?_
 rintro e w' ⟨rfl, rfl⟩
 go_wp2
 go_quiet (fail)
 go_wp2
 go_ret
 exact ⟨rfl, _, rfl⟩
theorem rfirst_yes (h : Row .i64 w ao n cap lv) (hn : n <= 2000) (hR : Rn.Runs lv rs) {j : Nat} (hj : j < rs.length) :
  Calls Tryz.prog 57 #[.slice ao n cap, .int .i64 (Rn.fst rs j : Int)] w fun e w' => e = .returned (.bool true) /\ ∃ q, w' = w.drewN q := by
 have hf := Rn.fst_kept hR hj
 rw [h.len] at hf
 by_cases hj0 : j = 0
 ·subst hj0
  exact rfirst_none h hn hf.1 (kp_true hf.2) (fun z hz => kp_false (hR.before hj z hz))
 ·obtain ⟨j', rfl⟩ : ∃ j', j = j' + 1 := ⟨j - 1, by omega⟩
  obtain ⟨⟨a1, a2⟩, a3⟩ := hR.outer j' hj
  have hl := Rn.lst_kept hR (show j' < rs.length by omega)
  have := rfirst_two h hn hf.1 (kp_true hf.2) a1 (kp_true hl.2.1) (fun z h1 h2 => kp_false (a2 z h1 h2))
  rw [hl.2.2, show (lv.getD (Rn.fst rs j') 0 != lv.getD (Rn.fst rs (j' + 1)) 0) = true from bne_iff_ne.2 a3] at this
  exact this
theorem rfirst_in (h : Row .i64 w ao n cap lv) (hn : n <= 2000) (hR : Rn.Runs lv rs) {j m : Nat} (hj : j < rs.length) (hm : m + 1 < (Rn.rn rs j).length) :
  Calls Tryz.prog 57 #[.slice ao n cap, .int .i64 (((Rn.rn rs j).getD (m + 1) 0 : Nat) : Int)] w fun e w' => e = .returned (.bool false) /\ ∃ q, w' = w.drewN q := by
 have h1 := hR.kept j (m + 1) hj hm
 have h2 := hR.kept j m hj (by omega)
 obtain ⟨a1, a2⟩ := hR.inner j m hj hm
 rw [h.len] at h1 h2
 have := rfirst_two h hn h1.1 (kp_true h1.2.1) a1 (kp_true h2.2.1) (fun z h1 h2 => kp_false (a2 z h1 h2))
 rw [h1.2.2, h2.2.2, show (lv.getD (Rn.fst rs j) 0 != lv.getD (Rn.fst rs j) 0) = false from by simp] at this
 exact this
theorem rrun_any (h : Row .i64 w ao n cap lv) (hn : n <= 2000) (hR : Rn.Runs lv rs) {j : Nat} (hj : j < rs.length) :
  Calls Tryz.prog 89 #[.slice ao n cap, .int .i64 (Rn.fst rs j : Int)] w fun e w' => ∃ g cp, e = .returned (.slice (some ⟨g, 0, none⟩) (Rn.rn rs j).length cp) /\ w'.ownsRow w.heap.size 3 1 (.slice (some ⟨g, 0, none⟩) (Rn.rn rs j).length cp) (Rn.rn rs j).length ((Rn.zs (Rn.rn rs j)).map (Value.int .i64)) /\ Below w.heap.size w w' := by
 obtain ⟨ii, hii, hy0, hy1, hy2⟩ := info_parts infoInt
 have HII := hide hii
 have HY0 := hide hy0
 have HY1 := hide hy1
 have HY2 := hide hy2
 have H := hide h
 have HR := hide hR
 have hpos := hR.pos j hj
 have hf := Rn.fst_kept hR hj
 rw [h.len] at hf
 have hml : (Rn.rn rs j).length <= 2000 := by
  have h1 := Rn.mem_len (Rn.rn_mem hj)
  rw [hR.flat] at h1
  have h2 := List.length_filter_le (Rn.kp lv) (List.range lv.length)
  rw [List.length_range] at h2
  have h3 := h.len
  omega
 have HKE := hide (fun m (hm : m < (Rn.rn rs j).length) => (show (Rn.rn rs j).getD m 0 < n /\ lv.getD ((Rn.rn rs j).getD m 0) 0 = lv.getD (Rn.fst rs j) 0 /\ 0 <= lv.getD ((Rn.rn rs j).getD m 0) 0 from by
  have := hR.kept j m hj hm
  rw [h.len] at this
  exact ⟨this.1, this.2.2, kp_true this.2.1⟩))
 have HNX := hide (fun (W : World) (hb : Below w.heap.size w W) m (hm : m + 1 < (Rn.rn rs j).length) => nb_up_some (h.below hb) hn (hR.inner j m hj hm).1 ((HKE.out (m + 1) hm).1) ((HKE.out (m + 1) hm).2.2) (fun z h1 h2 => kp_false ((hR.inner j m hj hm).2 z h1 h2)))
 have HLA : Hid (∀ (W : World), Below w.heap.size w W -> (j + 1 < rs.length /\ Rn.fst rs (j + 1) < n /\ ¬ lv.getD (Rn.fst rs (j + 1)) 0 = lv.getD (Rn.fst rs j) 0 /\ Calls Tryz.prog 88 #[.slice ao n cap, .int .i64 (Rn.lst rs j : Int), .int .i64 1] W (fun e w' => e = .returned (.int .i64 (Rn.fst rs (j + 1) : Int)) /\ W = w')) \/ Calls Tryz.prog 88 #[.slice ao n cap, .int .i64 (Rn.lst rs j : Int), .int .i64 1] W (fun e w' => e = .returned (.int .i64 (-1)) /\ W = w')) := hide fun W hb => by
  by_cases hjl : j + 1 < rs.length
  ·obtain ⟨⟨a1, a2⟩, a3⟩ := hR.outer j hjl
   have hf2 := Rn.fst_kept hR hjl
   rw [h.len] at hf2
   exact .inl ⟨hjl, hf2.1, fun e => a3 e.symm, nb_up_some (h.below hb) hn a1 hf2.1 (kp_true hf2.2) (fun z h1 h2 => kp_false (a2 z h1 h2))⟩
  ·have hl := (Rn.lst_kept hR hj).1
   rw [h.len] at hl
   have hq : rs.length - 1 = j := by omega
   exact .inr (nb_up_none (h.below hb) hn hl (fun z h1 h2 => kp_false (hR.after (by omega) z (by rw [hq]; exact h1) (by rw [h.len]; exact h2))))
 have HFE := hide (show (Rn.rn rs j).getD 0 0 = Rn.fst rs j from rfl)
 have HLE := hide (show (Rn.rn rs j).getD ((Rn.rn rs j).length - 1) 0 = Rn.lst rs j from rfl)
 obtain ⟨b, off, rfl, hbl, hc⟩ := h.cells (by omega)
 have cf := hc (Rn.fst rs j) (by rw [h.len]; exact hf.1)
 have hfn : (Rn.fst rs j : Int) < (n : Int) := by omega
 have HC := hide hc
 have HLn := hide h.len
 have HOW0 := hide (show (w.alloc (.cells #[.int .i64 (Rn.fst rs j : Int)] 3)).ownsRow w.heap.size 3 1 (.slice (some ⟨w.heap.size, 0, none⟩) 1 1) 1 ((Rn.zs ((Rn.rn rs j).take 1)).map (Value.int .i64)) from by
  have e : (Rn.rn rs j).take 1 = [Rn.fst rs j] := by
   have := Rn.split_at (Rn.rn rs j) 0 0 hpos
   rw [this]; simp [Rn.fst]
  rw [e]
  exact World.ownsRow_lit w #[.int .i64 (Rn.fst rs j : Int)] 1 (Nat.le_refl _) (by unfold maxLen; omega) rfl)
 generalize Rn.fst rs j = f at *
 generalize lv.getD f 0 = lf at *
 generalize hrr : Rn.rn rs j = r at *
 clear h hR hii hy0 hy1 hy2 hc hf hrr
 go_enter Tryz.func89, Tryz.ntmps89
 go_wp2
 go_loopw [5] (fun s5 wr => ∃ m : Nat, m < r.length /\ Hid (wr.ownsRow w.heap.size 3 1 s5 (m + 1) ((Rn.zs (r.take (m + 1))).map (Value.int .i64)) /\ Below w.heap.size w wr)) (fun s5 _ => match s5 with | .slice _ k _ => r.length - k | _ => 0)
 case atStart => exact ⟨0, hpos, hide ⟨HOW0.out, (Below.refl _ _).alloc (Nat.le_refl _) _⟩⟩
 case round =>
  obtain ⟨m, hm, hq⟩ := hrel
  obtain ⟨how, hbw⟩ := hq.out
  obtain ⟨g, cp, rfl, hgB, hcp⟩ := owns_pos how (by omega)
  have ct : wr.cell? ⟨g, m, none⟩ = some (.int .i64 (r.getD m 0 : Int)) := by
   have := owns_cell how m (by omega)
   rw [Rn.zs_at _ _ (by simp; omega)] at this
   rw [this]
   simp [List.getD]
  have cf2 := (hbw.cell (p := ⟨b, off + f, none⟩) (by exact hbl)).trans cf
  have em : ((m + 1 : Nat) : Int) - 1 = (m : Int) := by omega
  have hmm : (m : Int) < (m : Int) + 1 := by omega
  by_cases hml2 : m + 1 < r.length
  ·have HN := hide (HNX.out wr hbw m hml2)
   obtain ⟨k1, k2, k3⟩ := HKE.out (m + 1) hml2
   have cn := (hbw.cell (p := ⟨b, off + r.getD (m + 1) 0, none⟩) (by exact hbl)).trans (HC.out (r.getD (m + 1) 0) (by rw [HLn.out]; exact k1))
   rw [k2] at cn
   have HTS := hide (show r.take (m + 1 + 1) = r.take (m + 1) ++ [r.getD (m + 1) 0] from by rw [List.take_succ_eq_append_getElem hml2]; simp [List.getD, hml2])
   generalize r.getD m 0 = x at *
   generalize r.getD (m + 1) 0 = y at *
   have gg : decide ((y : Int) < 0) = false := decide_eq_false (by omega)
   have gg1 : ¬ (y : Int) < 0 := by omega
   have hyn : (y : Int) < (n : Int) := by omega
   have HOW := hide (show ∀ q, (wr.drewN q).ownsRow w.heap.size 3 1 (.slice (some ⟨g, 0, none⟩) (m + 1) cp) (m + 1) ((Rn.zs (r.take (m + 1))).map (Value.int .i64)) from fun q => owns_below how (below_drewN wr q))
   have HBW := hide (show ∀ q, Below w.heap.size w (wr.drewN q) from fun q => KO.on hbw (below_drewN wr q))
   have hsz : w.heap.size <= wr.heap.size := hbw.size
   clear hq how hbw HNX HLA
   go_wp2_with (go_at_call 88; refine HN.out.mono ?_; rintro e w' ⟨rfl, rfl⟩)
   go_quiet (fail)
   go_wp2_with (at_builtin; refine wpList_append_own_at _ rfl (.tmp 31) (.tmp 33) 30 rfl w.heap.size 3 ii (.int .i64 0) 1 8 Tryz.underlying30 HII.out HY0.out HY1.out HY2.out rfl (by decide) (.slice (some ⟨g, 0, none⟩) (m + 1) cp) (m + 1) _ rfl ((HOW.out nq).alloc _) ⟨wr.heap.size, 0, none⟩ 1 1 [.int .i64 (y : Int)] rfl rfl (cell_one_new _ _ _) (ints_oneCell .i64 [(y : Int)]) (by unfold maxLen; omega) (by omega) (by simp; omega) ?_; intro v6 w6 ho6 hg6 _ _; obtain ⟨g6, c6, rfl, _, _⟩ := owns_pos ho6 (by omega))
   refine ⟨⟨m + 1, hml2, hide ⟨?_, grown_alloc (HBW.out nq) hsz hg6 (fun q hq => by simp [Value.ownBlock] at hq; omega)⟩⟩, ?_⟩
   ·rw [HTS.out, Rn.zs_append, List.map_append]
    exact ho6
   ·simp only
    omega
  ·have hme : m + 1 = r.length := by omega
   have HOW := hide (show ∀ q, (wr.drewN q).ownsRow w.heap.size 3 1 (.slice (some ⟨g, 0, none⟩) (m + 1) cp) (m + 1) ((Rn.zs r).map (Value.int .i64)) from fun q => by
    have := owns_below how (below_drewN wr q)
    rw [hme, List.take_length] at this
    rw [<- hme] at this
    exact this)
   have HBW := hide (show ∀ q, Below w.heap.size w (wr.drewN q) from fun q => KO.on hbw (below_drewN wr q))
   have hlst : Rn.lst rs j = r.getD m 0 := by rw [<- HLE.out, <- hme, Nat.add_sub_cancel]
   have hla := HLA.out wr hbw
   rw [hlst] at hla
   have HRL := hide (show r.length = m + 1 from hme.symm)
   rcases hla with ⟨h1, h2, h3, h4⟩ | h4
   ·have HN := hide h4
    have cn := (hbw.cell (p := ⟨b, off + Rn.fst rs (j + 1), none⟩) (by exact hbl)).trans (HC.out (Rn.fst rs (j + 1)) (by rw [HLn.out]; exact h2))
    generalize lv.getD (Rn.fst rs (j + 1)) 0 = ly at *
    generalize Rn.fst rs (j + 1) = y at *
    generalize r.getD m 0 = x at *
    have gg : decide ((y : Int) < 0) = false := decide_eq_false (by omega)
    have gg1 : ¬ (y : Int) < 0 := by omega
    have hyn : (y : Int) < (n : Int) := by omega
    have gg2 : (ly != lf) = true := bne_iff_ne.2 h3
    clear hq how hbw HNX HLA h4 hlst hme hml2
    go_wp2_with (go_at_call 88; refine HN.out.mono ?_; rintro e w' ⟨rfl, rfl⟩)
    go_quiet (fail)
    go_wp2
    go_ret
    have hq := HRL.out
    rw [hq]
    exact ⟨g, cp, rfl, HOW.out nq, HBW.out nq⟩
   ·have HN := hide h4
    generalize r.getD m 0 = x at *
    clear hq how hbw HNX HLA h4 hlst hme hml2
    go_wp2_with (go_at_call 88; refine HN.out.mono ?_; rintro e w' ⟨rfl, rfl⟩)
    go_quiet (fail)
    go_wp2
    go_ret
    have hq := HRL.out
    rw [hq]
    exact ⟨g, cp, rfl, HOW.out nq, HBW.out nq⟩
end
end Go.Proofs.YtfcoebbblfcdoaaGreatDoor

/- The document's side, level, owned. -/
namespace Go.Proofs.YtfcoebbblfcdoaaGreatDoor
open Go.RowKit Go.Maps
set_option linter.unusedVariables false
set_option maxHeartbeats 1000000
set_option maxRecDepth 100000
theorem refside_any (x y : Int) (w : World) : Calls Tryz.prog 90 #[.int .i64 x, .int .i64 y] w fun e w' => e = .returned (.int .i64 (Rn.sd x y)) /\ w = w' := by
 unfold Rn.sd
 by_cases hxy : x < y
 ·rw [show max x y = y from Int.max_eq_right (by omega)]
  by_cases h : y.tmod 2 = 1
  ·rw [if_pos h]
   have hb : (y.tmod 2 == 1) = true := by rw [h]; rfl
   clear h
   go_enter Tryz.func90, Tryz.ntmps90
   go_wp2
   go_ret
   exact ⟨rfl, rfl⟩
  ·rw [if_neg h]
   have hb : (y.tmod 2 == 1) = false := beq_false_of_ne h
   clear h
   go_enter Tryz.func90, Tryz.ntmps90
   go_wp2
   go_ret
   exact ⟨rfl, rfl⟩
 ·rw [show max x y = x from Int.max_eq_left (by omega)]
  by_cases h : x.tmod 2 = 1
  ·rw [if_pos h]
   have hb : (x.tmod 2 == 1) = true := by rw [h]; rfl
   clear h
   go_enter Tryz.func90, Tryz.ntmps90
   go_wp2
   go_ret
   exact ⟨rfl, rfl⟩
  ·rw [if_neg h]
   have hb : (x.tmod 2 == 1) = false := beq_false_of_ne h
   clear h
   go_enter Tryz.func90, Tryz.ntmps90
   go_wp2
   go_ret
   exact ⟨rfl, rfl⟩
theorem reflevel_no (ao : Option Addr) (n cap : Nat) (b : Int) (w : World) : Calls Tryz.prog 91 #[.slice ao n cap, .int .i64 (-1), .int .i64 b] w fun e w' => e = .returned (.int .i64 b) /\ w = w' := by
 go_enter Tryz.func91, Tryz.ntmps91
 go_wp2
 go_ret
 exact ⟨rfl, rfl⟩
theorem reflevel_at {ao : Option Addr} {n cap : Nat} {lv : List Int} {w : World} (h : Row .i64 w ao n cap lv) {i : Nat} (hi : i < n) (b : Int) : Calls Tryz.prog 91 #[.slice ao n cap, .int .i64 (i : Int), .int .i64 b] w fun e w' => e = .returned (.int .i64 (lv.getD i 0)) /\ w = w' := by
 obtain ⟨bb, off, rfl, hbl, hc⟩ := h.cells (by omega)
 have ci := hc i (by rw [h.len]; exact hi)
 have hin : (i : Int) < (n : Int) := by omega
 have gg : ¬ (i : Int) < 0 := by omega
 generalize lv.getD i 0 = x at *
 clear h hc
 go_enter Tryz.func91, Tryz.ntmps91
 go_wp2
 go_ret
 exact ⟨rfl, rfl⟩
theorem refowned_any {ao : Option Addr} {n cap : Nat} {c : List Int} {w : World} (h : Row .i64 w ao n cap c) (hn : n <= 300) {i : Nat} (hi : i < n) (B : Bool) (hB : B = true ↔ ∃ k, k < i /\ Iso.st (c.getD k 0) = true /\ Iso.partner c k = i) :
  Calls Tryz.prog 58 #[.slice ao n cap, .int .i64 (i : Int)] w fun e w' => e = .returned (.bool B) /\ w = w' := by
 have HP := hide (fun k (hk : k < n) => partner_any ao n cap c k w h (by omega) hk)
 have HS := hide (fun x => Starts_any x w)
 have HB := hide hB
 have hlen := h.len
 have HL := hide hlen
 obtain ⟨bb, off, rfl, hbl, hc⟩ := h.cells (by omega)
 have ci := hc i (by rw [hlen]; exact hi)
 have HC := hide hc
 have hin : (i : Int) < (n : Int) := by omega
 by_cases h23 : c.getD i 0 = 23
 ·rw [h23] at ci
  clear h hc hB hlen
  go_enter Tryz.func58, Tryz.ntmps58
  go_wp2
  go_loopw [5] (fun s5 wr => ∃ k : Nat, k <= i /\ s5 = .int .i64 (k : Int) /\ Hid (∀ k', k' < k -> ¬ (Iso.st (c.getD k' 0) = true /\ Iso.partner c k' = i)) /\ w = wr) (fun s5 _ => i - (intOf s5).toNat)
  case atStart => exact ⟨0, Nat.zero_le _, rfl, hide (fun k' h => by omega), rfl⟩
  case round =>
   obtain ⟨k, hk, rfl, hq, rfl⟩ := hrel
   by_cases hki : k < i
   ·have ck := HC.out k (by rw [HL.out]; omega)
    have hki2 : (k : Int) < (i : Int) := by omega
    have hkn : (k : Int) < (n : Int) := by omega
    have HPk := hide (HP.out k (by omega))
    have HSk := hide (HS.out (c.getD k 0))
    have HST := hide (fun (hs : ¬ (Iso.st (c.getD k 0) = true /\ Iso.partner c k = i)) => (show ∀ k', k' < k + 1 -> ¬ (Iso.st (c.getD k' 0) = true /\ Iso.partner c k' = i) from fun k' hk' => by
     by_cases e : k' = k
     ·subst e; exact hs
     ·exact hq.out k' (by omega)))
    cases hs : Iso.st (c.getD k 0) with
    | false =>
     rw [hs] at HSk
     have HE := hide (HST.out (by rw [hs]; simp))
     generalize c.getD k 0 = x at *
     clear hq HST hs
     go_wp2_with (go_at_call 51; refine HSk.out.mono ?_; rintro e w' ⟨rfl, rfl⟩)
     exact ⟨⟨k + 1, by omega, by go_num, HE, trivial⟩, by simp [intOf]; omega⟩
    | true =>
     rw [hs] at HSk
     by_cases hp : Iso.partner c k = i
     ·have hBt : B = true := HB.out.2 ⟨k, hki, hs, hp⟩
      subst hBt
      rw [hp] at HPk
      generalize c.getD k 0 = x at *
      clear hq HST hs hp
      go_wp2_with (first
       | (go_at_call 51; refine HSk.out.mono ?_; rintro e w' ⟨rfl, rfl⟩)
       | (go_at_call 52; refine HPk.out.mono ?_; rintro e w' ⟨rfl, rfl⟩))
      go_ret
      exact ⟨rfl, rfl⟩
     ·have HE := hide (HST.out (fun q => hp q.2))
      generalize c.getD k 0 = x at *
      generalize Iso.partner c k = p at *
      have gp : ((p : Int) == (i : Int)) = false := beq_false_of_ne (by omega)
      have gp2 : ¬ (p : Int) = (i : Int) := by omega
      clear hq HST hs
      go_wp2_with (first
       | (go_at_call 51; refine HSk.out.mono ?_; rintro e w' ⟨rfl, rfl⟩)
       | (go_at_call 52; refine HPk.out.mono ?_; rintro e w' ⟨rfl, rfl⟩))
      exact ⟨⟨k + 1, by omega, by go_num, HE, trivial⟩, by simp [intOf]; omega⟩
   ·obtain rfl : k = i := by omega
    have hBf : B = false := by
     cases hb : B with
     | false => rfl
     | true => obtain ⟨k', h1, h2, h3⟩ := HB.out.1 hb; exact absurd ⟨h2, h3⟩ (hq.out k' h1)
    subst hBf
    have hne : ¬ ((k : Int) < (k : Int)) := by omega
    clear hq
    go_wp2
    go_ret
    exact ⟨rfl, rfl⟩
 ·have hBf : B = false := by
   cases hb : B with
   | false => rfl
   | true =>
    obtain ⟨k', h1, h2, h3⟩ := hB.1 hb
    have := (Iso.partner_pdi h2 (by rw [h3, hlen]; exact hi)).1
    rw [h3] at this
    exact absurd this h23
  subst hBf
  generalize c.getD i 0 = x at *
  have g23 : (x == 23) = false := beq_false_of_ne h23
  clear h hc hB hlen HB
  go_enter Tryz.func58, Tryz.ntmps58
  go_wp2
  refine wp_loop_rounds 1 ?_
  rw [rounds_succ]
  by_cases h0 : 0 < i
  ·have h0' : (0 : Int) < (i : Int) := by omega
   go_wp2
   go_ret
   exact ⟨rfl, rfl⟩
  ·have h0' : ¬ (0 : Int) < (i : Int) := by omega
   go_wp2
   go_ret
   exact ⟨rfl, rfl⟩
namespace Rn
theorem aft_ge {f : Nat -> Option Nat} {N : Nat} (hf : ∀ k j, k < N -> f k = some j -> k < j /\ j < N) : ∀ c k l, k < N -> aft f c k = some l -> k + c <= l /\ l < N := by
 intro c
 induction c with
 | zero => intro k l hk h; simp [aft] at h; omega
 | succ c ih =>
  intro k l hk h
  rw [aft_succ] at h
  cases hq : f k with
  | none => rw [hq] at h; simp at h
  | some j =>
   rw [hq] at h
   obtain ⟨h1, h2⟩ := hf k j hk hq
   have := ih j l h2 h
   omega
theorem chn_more {f : Nat -> Option Nat} {t k l j : Nat} (ht : aft f t k = some l) (hj : f l = some j) : chn f (t + 1 + 1) k = chn f (t + 1) k ++ [j] /\ aft f (t + 1) k = some j := by
 have h1 : aft f (t + 1) k = some j := by rw [aft_add, ht]; simp [aft, hj]
 refine ⟨?_, h1⟩
 rw [chn_add f 1 (t + 1) k, h1]
 simp only [chn]
 cases f j <;> rfl
theorem chn_stop {f : Nat -> Option Nat} {t k l c : Nat} (ht : aft f t k = some l) (hj : f l = none) (hc : t + 1 <= c) : chn f c k = chn f (t + 1) k /\ ltc f c k = l := by
 have h1 : aft f (t + 1) k = none := by rw [aft_add, ht]; simp [aft, hj]
 obtain ⟨d, rfl⟩ : ∃ d, c = t + 1 + d := ⟨c - (t + 1), by omega⟩
 obtain ⟨e1, _, e3⟩ := ltc_none (b := d) h1
 refine ⟨e1, ?_⟩
 rw [e3]
 have h2 := ltc_some (b := 1) ht (by omega)
 rw [h2.2.2]
 unfold ltc
 simp [chn, hj]
end Rn
end Go.Proofs.YtfcoebbblfcdoaaGreatDoor
