/- Which levels may be, which places are seen. -/
import Derived.Test.YtmcbldllbnjipaaOb
import Derived.Test.YtmcbldllbnjipaaInts
import Derived.Test.YtmcbldllbnjipaaGrown
import Derived.Test.YtmcbldllbnjipaaSpare
namespace Go.Proofs.Ytmcbldllbnjipaa
open Go.RowKit
set_option linter.unusedVariables false
set_option maxHeartbeats 1000000
set_option maxRecDepth 100000
namespace Od
instance (l : List Int) : Decidable (Fo l) := by unfold Fo; exact inferInstance
/-- Places as numbers. -/
def Z (ps : List Nat) : List Int := ps.map fun (x : Nat) => (x : Int)
theorem Z_len (ps : List Nat) : (Z ps).length = ps.length := by simp [Z]
theorem Z_at (ps : List Nat) {i : Nat} (hi : i < ps.length) : (Z ps).getD i 0 = (ps.getD i 0 : Int) := by simp [Z, List.getD, hi]
/-- The places seen among the first k. -/
def KP (lv : List Int) (k : Nat) : List Nat := (List.range k).filter (sn lv)
theorem KP_in {lv : List Int} {k : Nat} (h : sn lv k = true) : KP lv (k + 1) = KP lv k ++ [k] := by
  unfold KP
  rw [List.range_succ, List.filter_append]
  simp [h]
theorem KP_out {lv : List Int} {k : Nat} (h : sn lv k = false) : KP lv (k + 1) = KP lv k := by
  unfold KP
  rw [List.range_succ, List.filter_append]
  simp [h]
theorem KP_le (lv : List Int) (k : Nat) : (KP lv k).length ≤ k := by
  have := List.length_filter_le (sn lv) (List.range k)
  rw [List.length_range] at this
  exact this
theorem sn_iff {lv : List Int} (hf : Fo lv) {k : Nat} (hk : k < lv.length) : sn lv k = true ↔ ¬ lv.getD k 0 = -1 := by
  have := hf k hk
  constructor
  · intro h
    have := (sn_at h).2
    omega
  · intro h
    exact sn_of (by omega) hk
end Od
theorem areLevels_any (ao : Option Addr) (n cap : Nat) (l : List Int) (w : World) (h : Row .i64 w ao n cap l) :
    Calls Try.prog 23 #[.slice ao n cap] w fun e w' => e = .returned (.bool (decide (Od.Fo l))) ∧ w = w' := by
  have hmx : n ≤ maxLen := Nat.le_trans h.le h.max
  unfold maxLen at hmx
  have H := hide h
  have HL := hide h.len
  clear h
  go_enter Try.func23, Try.ntmps23
  go_wp2
  go_loopw [4, 7] (fun s4 i wr => ∃ k : Nat, k ≤ n ∧ i = .int .i64 (k : Int) ∧ Hid (∀ j, j < k → -1 ≤ l.getD j 0 ∧ l.getD j 0 ≤ 127) ∧ wr = w) (fun _ i _ => n - (intOf i).toNat)
  case atStart => exact ⟨0, Nat.zero_le _, rfl, hide (fun j hj => absurd hj (Nat.not_lt_zero _)), rfl⟩
  case round =>
    obtain ⟨k, hk, rfl, hall, rfl⟩ := hrel
    by_cases hlt : k < n
    · obtain ⟨b, off, rfl, hbl, hc⟩ := H.out.cells (by omega)
      have hkl : k < l.length := by rw [HL.out]; exact hlt
      have ck := hc k hkl
      have HX : Hid (∀ x, l.getD k 0 = x → (-1 ≤ x ∧ x ≤ 127) → ∀ j, j < k + 1 → -1 ≤ l.getD j 0 ∧ l.getD j 0 ≤ 127) := hide (fun x hx hr j hj => by
        by_cases e : j = k
        · subst e; rw [hx]; exact hr
        · exact hall.out j (by omega))
      have HN : Hid (∀ x, l.getD k 0 = x → ¬ (-1 ≤ x ∧ x ≤ 127) → decide (Od.Fo l) = false) := hide (fun x hx hr => decide_eq_false (fun q => hr (by rw [← hx]; exact q k hkl)))
      have hin : (k : Int) < (n : Int) := by omega
      clear hc hall
      generalize hx : l.getD k 0 = x at ck
      have HX2 := hide (HX.out x hx)
      have HN2 := hide (HN.out x hx)
      clear HX HN hx
      by_cases h1 : x < -1
      · have HN3 := hide (HN2.out (by omega))
        go_wp2
        go_ret
        exact ⟨ret_bool HN3.out.symm, rfl⟩
      · by_cases h2 : 127 < x
        · have HN3 := hide (HN2.out (by omega))
          go_wp2
          go_ret
          exact ⟨ret_bool HN3.out.symm, rfl⟩
        · have HX3 := hide (HX2.out ⟨by omega, by omega⟩)
          go_wp2
          go_roundw
          case rel => exact ⟨k + 1, by omega, by go_num, HX3, by first | rfl | trivial⟩
          case measure => simp [intOf]; omega
    · obtain rfl : k = n := by omega
      have hne : ¬ ((k : Int) < (k : Int)) := by omega
      have HF : Hid (decide (Od.Fo l) = true) := hide (decide_eq_true (fun i hi => hall.out i (by rw [HL.out] at hi; exact hi)))
      clear hall
      go_wp2
      go_ret
      exact ⟨ret_bool HF.out.symm, rfl⟩
theorem seen_any (ao : Option Addr) (n cap : Nat) (l : List Int) (w : World) (h : Row .i64 w ao n cap l) (hf : Od.Fo l) (hn : n * 8 ≤ 281474976702464) :
    Calls Try.prog 24 #[.slice ao n cap] w fun e w' => ∃ v, e = .returned v ∧ w'.ownsRow w.heap.size 3 1 v (Od.K l).length ((Od.Z (Od.K l)).map (Value.int .i64)) ∧ KO w w' := by
  obtain ⟨ii, hii, hy0, hy1, hy2⟩ := info_parts infoInt
  have HII : Hid (Try.prog.info? 3 = some ii) := hii
  have HY0 := hide hy0
  have HY1 := hide hy1
  have HY2 := hide hy2
  have H := hide h
  have HL := hide h.len
  have HF := hide hf
  have hn2 : n ≤ 35184372087808 := by omega
  clear h hf hii hy0 hy1 hy2
  go_enter Try.func24, Try.ntmps24
  go_wp2_with (at_make; refine wpList_make_own _ rfl _ _ 22 rfl w.heap.size 3 ii (.int .i64 0) 1 Try.underlying22 HII.out HY0.out HY1.out _ _ _ n rfl rfl rfl ?b2 ?b3 (Nat.le_refl _) ?_)
  case b2 => rw [HY2.out]; omega
  case b3 => unfold maxLen; omega
  intro w1 hown hgrow
  have hbel := (Below.refl w.heap.size w).grown hgrow (Nat.le_refl _) (fun _ h => by cases h)
  have HO : Hid (RG w (Od.Z (Od.KP l 0)) (Od.KP l 0).length (.slice (some ⟨w.heap.size, 0, none⟩) (Od.KP l 0).length n) w1) := hide ⟨by simpa [Od.KP, Od.Z] using hown, hbel⟩
  clear hown hgrow hbel
  go_wp2
  go_loopw [3, 4, 5, 11] (fun s3 s4 s5 i wr => ∃ k : Nat, s3 = .slice (some ⟨w.heap.size, 0, none⟩) ((Od.KP l k).length : Nat) n ∧ k ≤ n ∧ i = .int .i64 (k : Int) ∧ Hid (RG w (Od.Z (Od.KP l k)) (Od.KP l k).length (.slice (some ⟨w.heap.size, 0, none⟩) (Od.KP l k).length n) wr)) (fun _ _ _ i _ => n - (intOf i).toNat)
  case atStart => exact ⟨0, rfl, Nat.zero_le _, rfl, HO⟩
  case round =>
    obtain ⟨k, rfl, hk, rfl, hm⟩ := hrel
    by_cases hlt : k < n
    · obtain ⟨b, off, rfl, hbl, hc⟩ := H.out.cells (by omega)
      have hkl : k < l.length := by rw [HL.out]; exact hlt
      have ck : wr.cell? ⟨b, off + k, none⟩ = some (.int .i64 (l.getD k 0)) := (hm.out.bel.cell (by exact hbl)).trans (hc k hkl)
      have hin : (k : Int) < (n : Int) := by omega
      have hs := Od.sn_iff HF.out hkl
      have hkp := Od.KP_le l k
      clear hc
      by_cases h1 : l.getD k 0 = -1
      · have e1 : Od.KP l (k + 1) = Od.KP l k := Od.KP_out (by rw [← Bool.not_eq_true]; exact fun q => hs.1 q h1)
        have HM := hide (show RG w (Od.Z (Od.KP l (k + 1))) (Od.KP l (k + 1)).length (.slice (some ⟨w.heap.size, 0, none⟩) (Od.KP l (k + 1)).length n) wr from by rw [e1]; exact hm.out)
        have HE1 := hide e1
        rw [h1] at ck
        clear hm hs e1 h1
        go_wp2
        go_roundw
        case rel => exact ⟨k + 1, by rw [HE1.out], by omega, by go_num, HM⟩
        case measure => simp [intOf]; omega
      · have e1 : Od.KP l (k + 1) = Od.KP l k ++ [k] := Od.KP_in (hs.2 h1)
        have e2 : Od.Z (Od.KP l (k + 1)) = Od.Z (Od.KP l k) ++ [(k : Int)] := by rw [e1]; simp [Od.Z]
        have e3 : (Od.KP l (k + 1)).length = (Od.KP l k).length + 1 := by rw [e1]; simp
        have HW := hide hm.out
        have HE : Hid (∀ w2, RG w (Od.Z (Od.KP l k) ++ [(k : Int)]) ((Od.KP l k).length + 1) (.slice (some ⟨w.heap.size, 0, none⟩) ((Od.KP l k).length + 1) n) w2 → RG w (Od.Z (Od.KP l (k + 1))) (Od.KP l (k + 1)).length (.slice (some ⟨w.heap.size, 0, none⟩) (Od.KP l (k + 1)).length n) w2) := hide (fun w2 q => by rw [e2, e3]; exact q)
        have HE3 := hide e3
        have h1b : (l.getD k 0 != -1) = true := bne_iff_ne.2 h1
        clear hm hs e1 e2 e3
        generalize (Od.KP l k).length = L at *
        generalize Od.Z (Od.KP l k) = Y at *
        generalize l.getD k 0 = x at *
        go_wp2_with (at_builtin; refine wpList_append_spare _ rfl (.tmp 18) (.tmp 20) 22 rfl w.heap.size 3 ii Try.underlying22 HII.out HY1.out w.heap.size L n _ rfl (HW.out.own.alloc _) .i64 _ 1 1 [(k : Int)] rfl (row_one _ wr.heap.size rfl (k : Int)) (by omega) ?_; intro w2 hown2 hb2)
        have HM := hide (HE.out _ (RG.snoc HW.out.bel hb2 hown2 rfl))
        clear hown2 hb2 HE HW
        go_wp2
        go_roundw
        case rel => exact ⟨k + 1, by rw [HE3.out], by omega, by go_num, HM⟩
        case measure => simp [intOf]; omega
    · obtain rfl : k = n := by omega
      have hne : ¬ ((k : Int) < (k : Int)) := by omega
      have HKE : Hid (Od.KP l k = Od.K l) := hide (by rw [← HL.out]; rfl)
      have HM := hide (show RG w (Od.Z (Od.K l)) (Od.K l).length (.slice (some ⟨w.heap.size, 0, none⟩) (Od.K l).length k) wr from by
        have := hm.out
        rw [HKE.out] at this
        exact this)
      rw [HKE.out]
      clear hm
      go_wp2
      go_ret
      exact ⟨_, rfl, HM.out.own, HM.out.bel⟩
end Go.Proofs.Ytmcbldllbnjipaa
