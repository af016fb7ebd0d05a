/- The document's first, run. -/
import Derived.Test.YthohbiklnknofaaRefn
import Derived.Test.YthohbiklnknofaaPg
namespace Go.Proofs.Ythohbiklnknofaa
open Go.RowKit Go.Maps
set_option linter.unusedVariables false
set_option maxHeartbeats 1000000
set_option maxRecDepth 100000
section
variable {lv : List Int} {rs : List (List Nat)} {ao : Option Addr} {n cap : Nat} {w : World}
theorem kp_false {z : Nat} (h : Rn.kp lv z = false) : lv.getD z 0 < 0 := by unfold Rn.kp at h; simpa using h
theorem kp_true {z : Nat} (h : Rn.kp lv z = true) : 0 ≤ lv.getD z 0 := by unfold Rn.kp at h; simpa using h
theorem rfirst_neg (h : Row .i64 w ao n cap lv) {i : Nat} (hi : i < n) (hz : lv.getD i 0 < 0) :
    Calls Try.prog 20 #[.slice ao n cap, .int .i64 (i : Int)] w fun e w' => e = .returned (.bool false) ∧ ∃ q, w' = w.drewN q := by
  obtain ⟨b, off, rfl, hbl, hc⟩ := h.cells (by omega)
  have ci := hc i (by rw [h.len]; exact hi)
  have hin : (i : Int) < (n : Int) := by omega
  generalize lv.getD i 0 = x at *
  clear h hc
  go_enter Try.func20, Try.ntmps20
  go_wp2
  go_ret
  exact ⟨rfl, 0, rfl⟩
theorem rfirst_two (h : Row .i64 w ao n cap lv) (hn : n ≤ 2000) {i y : Nat} (hi : i < n) (hz : 0 ≤ lv.getD i 0) (hy : y < i) (hk : 0 ≤ lv.getD y 0) (ha : ∀ z, y < z → z < i → lv.getD z 0 < 0) :
    Calls Try.prog 20 #[.slice ao n cap, .int .i64 (i : Int)] w fun e w' => e = .returned (.bool (lv.getD y 0 != lv.getD i 0)) ∧ ∃ q, w' = w.drewN q := by
  have HN := hide (nb_dn_some h hn hy hi hk ha)
  obtain ⟨b, off, rfl, hbl, hc⟩ := h.cells (by omega)
  have ci := hc i (by rw [h.len]; exact hi)
  have cy := hc y (by rw [h.len]; omega)
  have hin : (i : Int) < (n : Int) := by omega
  have hin2 : (y : Int) < (n : Int) := by omega
  have gg : decide ((y : Int) < 0) = false := decide_eq_false (by omega)
  have gg1 : ¬ (y : Int) < 0 := by omega
  generalize lv.getD i 0 = x at *
  generalize lv.getD y 0 = x' at *
  have hz2 : ¬ x < 0 := by omega
  clear h hc ha
  go_enter Try.func20, Try.ntmps20
  go_wp2_with fail
  refine HN.out.mono ?_
  rintro e w' ⟨rfl, rfl⟩
  go_wp2
  go_quiet (fail)
  go_wp2
  go_ret
  exact ⟨rfl, _, rfl⟩
theorem rfirst_none (h : Row .i64 w ao n cap lv) (hn : n ≤ 2000) {i : Nat} (hi : i < n) (hz : 0 ≤ lv.getD i 0) (ha : ∀ z, z < i → lv.getD z 0 < 0) :
    Calls Try.prog 20 #[.slice ao n cap, .int .i64 (i : Int)] w fun e w' => e = .returned (.bool true) ∧ ∃ q, w' = w.drewN q := by
  have HN := hide (nb_dn_none h hn hi ha)
  obtain ⟨b, off, rfl, hbl, hc⟩ := h.cells (by omega)
  have ci := hc i (by rw [h.len]; exact hi)
  have hin : (i : Int) < (n : Int) := by omega
  generalize lv.getD i 0 = x at *
  have hz2 : ¬ x < 0 := by omega
  clear h hc ha
  go_enter Try.func20, Try.ntmps20
  go_wp2_with fail
  refine HN.out.mono ?_
  rintro e w' ⟨rfl, rfl⟩
  go_wp2
  go_quiet (fail)
  go_wp2
  go_ret
  exact ⟨rfl, _, rfl⟩
/-- A run begins here. -/
theorem rfirst_yes (h : Row .i64 w ao n cap lv) (hn : n ≤ 2000) (hR : Rn.Runs lv rs) {j : Nat} (hj : j < rs.length) :
    Calls Try.prog 20 #[.slice ao n cap, .int .i64 (Rn.fst rs j : Int)] w fun e w' => e = .returned (.bool true) ∧ ∃ q, w' = w.drewN q := by
  have hf := Rn.fst_kept hR hj
  rw [h.len] at hf
  by_cases hj0 : j = 0
  · subst hj0
    exact rfirst_none h hn hf.1 (kp_true hf.2) (fun z hz => kp_false (hR.before hj z hz))
  · obtain ⟨j', rfl⟩ : ∃ j', j = j' + 1 := ⟨j - 1, by omega⟩
    obtain ⟨⟨a1, a2⟩, a3⟩ := hR.outer j' hj
    have hl := Rn.lst_kept hR (show j' < rs.length by omega)
    have := rfirst_two h hn hf.1 (kp_true hf.2) a1 (kp_true hl.2.1) (fun z h1 h2 => kp_false (a2 z h1 h2))
    rw [hl.2.2, show (lv.getD (Rn.fst rs j') 0 != lv.getD (Rn.fst rs (j' + 1)) 0) = true from bne_iff_ne.2 a3] at this
    exact this
/-- No run begins within a run. -/
theorem rfirst_in (h : Row .i64 w ao n cap lv) (hn : n ≤ 2000) (hR : Rn.Runs lv rs) {j m : Nat} (hj : j < rs.length) (hm : m + 1 < (Rn.rn rs j).length) :
    Calls Try.prog 20 #[.slice ao n cap, .int .i64 (((Rn.rn rs j).getD (m + 1) 0 : Nat) : Int)] w fun e w' => e = .returned (.bool false) ∧ ∃ q, w' = w.drewN q := by
  have h1 := hR.kept j (m + 1) hj hm
  have h2 := hR.kept j m hj (by omega)
  obtain ⟨a1, a2⟩ := hR.inner j m hj hm
  rw [h.len] at h1 h2
  have := rfirst_two h hn h1.1 (kp_true h1.2.1) a1 (kp_true h2.2.1) (fun z h1 h2 => kp_false (a2 z h1 h2))
  rw [h1.2.2, h2.2.2, show (lv.getD (Rn.fst rs j) 0 != lv.getD (Rn.fst rs j) 0) = false from by simp] at this
  exact this
/-- The run that begins here. -/
theorem rrun_any (h : Row .i64 w ao n cap lv) (hn : n ≤ 2000) (hR : Rn.Runs lv rs) {j : Nat} (hj : j < rs.length) :
    Calls Try.prog 21 #[.slice ao n cap, .int .i64 (Rn.fst rs j : Int)] w fun e w' => ∃ g cp, e = .returned (.slice (some ⟨g, 0, none⟩) (Rn.rn rs j).length cp) ∧ w'.ownsRow w.heap.size 3 1 (.slice (some ⟨g, 0, none⟩) (Rn.rn rs j).length cp) (Rn.rn rs j).length ((Rn.zs (Rn.rn rs j)).map (Value.int .i64)) ∧ Below w.heap.size w w' := by
  obtain ⟨ii, hii, hy0, hy1, hy2⟩ := info_parts infoInt
  have HII := hide hii
  have HY0 := hide hy0
  have HY1 := hide hy1
  have HY2 := hide hy2
  have H := hide h
  have HR := hide hR
  have hpos := hR.pos j hj
  have hf := Rn.fst_kept hR hj
  rw [h.len] at hf
  have hml : (Rn.rn rs j).length ≤ 2000 := by
    have h1 := Rn.mem_len (Rn.rn_mem hj)
    rw [hR.flat] at h1
    have h2 := List.length_filter_le (Rn.kp lv) (List.range lv.length)
    rw [List.length_range] at h2
    have h3 := h.len
    omega
  have HKE := hide (fun m (hm : m < (Rn.rn rs j).length) => (show (Rn.rn rs j).getD m 0 < n ∧ lv.getD ((Rn.rn rs j).getD m 0) 0 = lv.getD (Rn.fst rs j) 0 ∧ 0 ≤ lv.getD ((Rn.rn rs j).getD m 0) 0 from by
    have := hR.kept j m hj hm
    rw [h.len] at this
    exact ⟨this.1, this.2.2, kp_true this.2.1⟩))
  have HNX := hide (fun (W : World) (hb : Below w.heap.size w W) m (hm : m + 1 < (Rn.rn rs j).length) => nb_up_some (h.below hb) hn (hR.inner j m hj hm).1 ((HKE.out (m + 1) hm).1) ((HKE.out (m + 1) hm).2.2) (fun z h1 h2 => kp_false ((hR.inner j m hj hm).2 z h1 h2)))
  have HLA : Hid (∀ (W : World), Below w.heap.size w W → (j + 1 < rs.length ∧ Rn.fst rs (j + 1) < n ∧ ¬ lv.getD (Rn.fst rs (j + 1)) 0 = lv.getD (Rn.fst rs j) 0 ∧ Calls Try.prog 36 #[.slice ao n cap, .int .i64 (Rn.lst rs j : Int), .int .i64 1] W (fun e w' => e = .returned (.int .i64 (Rn.fst rs (j + 1) : Int)) ∧ W = w')) ∨ Calls Try.prog 36 #[.slice ao n cap, .int .i64 (Rn.lst rs j : Int), .int .i64 1] W (fun e w' => e = .returned (.int .i64 (-1)) ∧ W = w')) := hide fun W hb => by
    by_cases hjl : j + 1 < rs.length
    · obtain ⟨⟨a1, a2⟩, a3⟩ := hR.outer j hjl
      have hf2 := Rn.fst_kept hR hjl
      rw [h.len] at hf2
      exact .inl ⟨hjl, hf2.1, fun e => a3 e.symm, nb_up_some (h.below hb) hn a1 hf2.1 (kp_true hf2.2) (fun z h1 h2 => kp_false (a2 z h1 h2))⟩
    · have hl := (Rn.lst_kept hR hj).1
      rw [h.len] at hl
      have hq : rs.length - 1 = j := by omega
      exact .inr (nb_up_none (h.below hb) hn hl (fun z h1 h2 => kp_false (hR.after (by omega) z (by rw [hq]; exact h1) (by rw [h.len]; exact h2))))
  have HFE := hide (show (Rn.rn rs j).getD 0 0 = Rn.fst rs j from rfl)
  have HLE := hide (show (Rn.rn rs j).getD ((Rn.rn rs j).length - 1) 0 = Rn.lst rs j from rfl)
  obtain ⟨b, off, rfl, hbl, hc⟩ := h.cells (by omega)
  have cf := hc (Rn.fst rs j) (by rw [h.len]; exact hf.1)
  have hfn : (Rn.fst rs j : Int) < (n : Int) := by omega
  have HC := hide hc
  have HLn := hide h.len
  have HOW0 := hide (show (w.alloc (.cells #[.int .i64 (Rn.fst rs j : Int)] 3)).ownsRow w.heap.size 3 1 (.slice (some ⟨w.heap.size, 0, none⟩) 1 1) 1 ((Rn.zs ((Rn.rn rs j).take 1)).map (Value.int .i64)) from by
    have e : (Rn.rn rs j).take 1 = [Rn.fst rs j] := by
      have := Rn.split_at (Rn.rn rs j) 0 0 hpos
      rw [this]; simp [Rn.fst]
    rw [e]
    exact World.ownsRow_lit w #[.int .i64 (Rn.fst rs j : Int)] 1 (Nat.le_refl _) (by unfold maxLen; omega) rfl)
  generalize Rn.fst rs j = f at *
  generalize lv.getD f 0 = lf at *
  generalize hrr : Rn.rn rs j = r at *
  clear h hR hii hy0 hy1 hy2 hc hf hrr
  go_enter Try.func21, Try.ntmps21
  go_wp2
  go_loopw [5] (fun s5 wr => ∃ m : Nat, m < r.length ∧ Hid (wr.ownsRow w.heap.size 3 1 s5 (m + 1) ((Rn.zs (r.take (m + 1))).map (Value.int .i64)) ∧ Below w.heap.size w wr)) (fun s5 _ => match s5 with | .slice _ k _ => r.length - k | _ => 0)
  case atStart => exact ⟨0, hpos, hide ⟨HOW0.out, (Below.refl _ _).alloc (Nat.le_refl _) _⟩⟩
  case round =>
    obtain ⟨m, hm, hq⟩ := hrel
    obtain ⟨how, hbw⟩ := hq.out
    obtain ⟨g, cp, rfl, hgB, hcp⟩ := owns_pos how (by omega)
    have ct : wr.cell? ⟨g, m, none⟩ = some (.int .i64 (r.getD m 0 : Int)) := by
      have := owns_cell how m (by omega)
      rw [Rn.zs_at _ _ (by simp; omega)] at this
      rw [this]
      simp [List.getD]
    have cf2 := (hbw.cell (p := ⟨b, off + f, none⟩) (by exact hbl)).trans cf
    have em : ((m + 1 : Nat) : Int) - 1 = (m : Int) := by omega
    have hmm : (m : Int) < (m : Int) + 1 := by omega
    by_cases hml2 : m + 1 < r.length
    · have HN := hide (HNX.out wr hbw m hml2)
      obtain ⟨k1, k2, k3⟩ := HKE.out (m + 1) hml2
      have cn := (hbw.cell (p := ⟨b, off + r.getD (m + 1) 0, none⟩) (by exact hbl)).trans (HC.out (r.getD (m + 1) 0) (by rw [HLn.out]; exact k1))
      rw [k2] at cn
      have HTS := hide (show r.take (m + 1 + 1) = r.take (m + 1) ++ [r.getD (m + 1) 0] from by rw [List.take_succ_eq_append_getElem hml2]; simp [List.getD, hml2])
      generalize r.getD m 0 = x at *
      generalize r.getD (m + 1) 0 = y at *
      have gg : decide ((y : Int) < 0) = false := decide_eq_false (by omega)
      have gg1 : ¬ (y : Int) < 0 := by omega
      have hyn : (y : Int) < (n : Int) := by omega
      have HOW := hide (show ∀ q, (wr.drewN q).ownsRow w.heap.size 3 1 (.slice (some ⟨g, 0, none⟩) (m + 1) cp) (m + 1) ((Rn.zs (r.take (m + 1))).map (Value.int .i64)) from fun q => owns_below how (below_drewN wr q))
      have HBW := hide (show ∀ q, Below w.heap.size w (wr.drewN q) from fun q => KO.on hbw (below_drewN wr q))
      have hsz : w.heap.size ≤ wr.heap.size := hbw.size
      clear hq how hbw HNX HLA
      go_wp2_with (go_at_call 36; refine HN.out.mono ?_; rintro e w' ⟨rfl, rfl⟩)
      go_quiet (fail)
      go_wp2_with (at_builtin; refine wpList_append_own_at _ rfl (.tmp 31) (.tmp 33) 22 rfl w.heap.size 3 ii (.int .i64 0) 1 8 Try.underlying22 HII.out HY0.out HY1.out HY2.out rfl (by decide) (.slice (some ⟨g, 0, none⟩) (m + 1) cp) (m + 1) _ rfl ((HOW.out nq).alloc _) ⟨wr.heap.size, 0, none⟩ 1 1 [.int .i64 (y : Int)] rfl rfl (cell_one_new _ _ _) (ints_oneCell .i64 [(y : Int)]) (by unfold maxLen; omega) (by omega) (by simp; omega) ?_; intro v6 w6 ho6 hg6 _ _; obtain ⟨g6, c6, rfl, _, _⟩ := owns_pos ho6 (by omega))
      refine ⟨⟨m + 1, hml2, hide ⟨?_, grown_alloc (HBW.out nq) hsz hg6 (fun q hq => by simp [Value.ownBlock] at hq; omega)⟩⟩, ?_⟩
      · rw [HTS.out, Rn.zs_append, List.map_append]
        exact ho6
      · simp only
        omega
    · have hme : m + 1 = r.length := by omega
      have HOW := hide (show ∀ q, (wr.drewN q).ownsRow w.heap.size 3 1 (.slice (some ⟨g, 0, none⟩) (m + 1) cp) (m + 1) ((Rn.zs r).map (Value.int .i64)) from fun q => by
        have := owns_below how (below_drewN wr q)
        rw [hme, List.take_length] at this
        rw [← hme] at this
        exact this)
      have HBW := hide (show ∀ q, Below w.heap.size w (wr.drewN q) from fun q => KO.on hbw (below_drewN wr q))
      have hlst : Rn.lst rs j = r.getD m 0 := by rw [← HLE.out, ← hme, Nat.add_sub_cancel]
      have hla := HLA.out wr hbw
      rw [hlst] at hla
      have HRL := hide (show r.length = m + 1 from hme.symm)
      rcases hla with ⟨h1, h2, h3, h4⟩ | h4
      · have HN := hide h4
        have cn := (hbw.cell (p := ⟨b, off + Rn.fst rs (j + 1), none⟩) (by exact hbl)).trans (HC.out (Rn.fst rs (j + 1)) (by rw [HLn.out]; exact h2))
        generalize lv.getD (Rn.fst rs (j + 1)) 0 = ly at *
        generalize Rn.fst rs (j + 1) = y at *
        generalize r.getD m 0 = x at *
        have gg : decide ((y : Int) < 0) = false := decide_eq_false (by omega)
        have gg1 : ¬ (y : Int) < 0 := by omega
        have hyn : (y : Int) < (n : Int) := by omega
        have gg2 : (ly != lf) = true := bne_iff_ne.2 h3
        clear hq how hbw HNX HLA h4 hlst hme hml2
        go_wp2_with (go_at_call 36; refine HN.out.mono ?_; rintro e w' ⟨rfl, rfl⟩)
        go_quiet (fail)
        go_wp2
        go_ret
        have hq := HRL.out
        rw [hq]
        exact ⟨g, cp, rfl, HOW.out nq, HBW.out nq⟩
      · have HN := hide h4
        generalize r.getD m 0 = x at *
        clear hq how hbw HNX HLA h4 hlst hme hml2
        go_wp2_with (go_at_call 36; refine HN.out.mono ?_; rintro e w' ⟨rfl, rfl⟩)
        go_quiet (fail)
        go_wp2
        go_ret
        have hq := HRL.out
        rw [hq]
        exact ⟨g, cp, rfl, HOW.out nq, HBW.out nq⟩
end
end Go.Proofs.Ythohbiklnknofaa
