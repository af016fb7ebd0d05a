/- From which level on and down to which one stretches are turned about. -/
import Derived.Test.YtmcbldllbnjipaaOp
namespace Go.Proofs.Ytmcbldllbnjipaa
open Go.RowKit
set_option linter.unusedVariables false
set_option maxHeartbeats 1000000
set_option maxRecDepth 100000
namespace Od
/-- From a down to b. -/
structure TT (l : List Int) (a b : Int) : Prop where
  a1 : 1 ≤ a
  odd : a % 2 = 1
  low : ∀ z, sn l z = true → l.getD z 0 % 2 = 1 → a ≤ l.getD z 0
  is : a ≤ 127 → ∃ z, sn l z = true ∧ l.getD z 0 = a
  b0 : 0 ≤ b
  b1 : b ≤ 127
  high : ∀ z, sn l z = true → l.getD z 0 ≤ b
  bis : b = 0 ∨ ∃ z, sn l z = true ∧ l.getD z 0 = b
/-- Is the level d there among the first k? -/
def hs (l : List Int) (k d : Nat) : Bool := (List.range k).any fun i => l.getD i 0 == (d : Int)
theorem hs_iff {l : List Int} {k d : Nat} : hs l k d = true ↔ ∃ i, i < k ∧ l.getD i 0 = (d : Int) := by
  unfold hs
  rw [List.any_eq_true]
  constructor
  · rintro ⟨i, h1, h2⟩
    exact ⟨i, List.mem_range.1 h1, by simpa using h2⟩
  · rintro ⟨i, h1, h2⟩
    exact ⟨i, List.mem_range.2 h1, by simpa using h2⟩
/-- The array behind k places. -/
def HB (l : List Int) (k : Nat) : List Bool := (List.range 128).map fun d => hs l k d
theorem HB_zero (l : List Int) : HB l 0 = List.replicate 128 false := by
  refine List.ext_getElem (by simp [HB]) fun i h1 h2 => ?_
  rw [List.getElem_replicate]
  simp only [HB, List.getElem_map, List.getElem_range]
  rfl
theorem HB_at {l : List Int} {k d : Nat} (hd : d < 128) : (HB l k)[d]? = some (hs l k d) := by simp [HB, hd]
theorem HB_skip {l : List Int} {k : Nat} (h : l.getD k 0 = -1) : HB l (k + 1) = HB l k := by
  unfold HB
  refine List.map_congr_left fun d _ => ?_
  rw [Bool.eq_iff_iff, hs_iff, hs_iff]
  constructor
  · rintro ⟨i, h1, h2⟩
    refine ⟨i, ?_, h2⟩
    by_cases e : i = k
    · subst e; omega
    · omega
  · rintro ⟨i, h1, h2⟩
    exact ⟨i, by omega, h2⟩
theorem HB_set {l : List Int} {k d : Nat} (h : l.getD k 0 = (d : Int)) : (HB l k).set d true = HB l (k + 1) := by
  refine List.ext_getElem (by simp [HB]) fun i h1 h2 => ?_
  rw [List.getElem_set]
  simp only [HB, List.getElem_map, List.getElem_range]
  by_cases e : d = i
  · subst e
    rw [if_pos rfl, eq_comm, hs_iff]
    exact ⟨k, by omega, h⟩
  · rw [if_neg e, Bool.eq_iff_iff, hs_iff, hs_iff]
    constructor
    · rintro ⟨j, h3, h4⟩
      exact ⟨j, by omega, h4⟩
    · rintro ⟨j, h3, h4⟩
      refine ⟨j, ?_, h4⟩
      by_cases e2 : j = k
      · subst e2; omega
      · omega
theorem sn_hs {l : List Int} {d : Nat} : hs l l.length d = true ↔ ∃ z, sn l z = true ∧ l.getD z 0 = (d : Int) := by
  rw [hs_iff]
  constructor
  · rintro ⟨i, h1, h2⟩
    exact ⟨i, sn_of (by omega) h1, h2⟩
  · rintro ⟨z, h1, h2⟩
    exact ⟨z, (sn_at h1).1, h2⟩
theorem TT.made {l : List Int} (hf : Fo l) {p q : Nat} (h1 : p % 2 = 1) (h2 : ∀ d, d % 2 = 1 → d < p → hs l l.length d = false) (h3 : p ≤ 127 → hs l l.length p = true) (h4 : q ≤ 127) (h5 : ∀ d, q < d → d < 128 → hs l l.length d = false) (h6 : q = 0 ∨ hs l l.length q = true) : TT l (p : Int) (q : Int) := by
  have key : ∀ z, sn l z = true → ∃ d : Nat, l.getD z 0 = (d : Int) ∧ d < 128 ∧ hs l l.length d = true := fun z hz => by
    have h0 := (sn_at hz).2
    have h7 := hf z (sn_at hz).1
    obtain ⟨d, hd⟩ := Int.eq_ofNat_of_zero_le h0
    exact ⟨d, hd, by omega, sn_hs.2 ⟨z, hz, hd⟩⟩
  refine ⟨by omega, by omega, fun z hz ho => ?_, fun hp => ?_, by omega, by omega, fun z hz => ?_, ?_⟩
  · obtain ⟨d, hd, _, hh⟩ := key z hz
    rw [hd] at ho ⊢
    by_cases hlt : d < p
    · rw [h2 d (by omega) hlt] at hh; cases hh
    · omega
  · obtain ⟨z, hz, e⟩ := sn_hs.1 (h3 (by omega))
    exact ⟨z, hz, e⟩
  · obtain ⟨d, hd, hd2, hh⟩ := key z hz
    rw [hd]
    by_cases hlt : q < d
    · rw [h5 d hlt hd2] at hh; cases hh
    · omega
  · rcases h6 with rfl | h6
    · exact .inl rfl
    · obtain ⟨z, hz, e⟩ := sn_hs.1 h6
      exact .inr ⟨z, hz, e⟩
end Od
theorem zeroThere (w : World) : (zeroValue 59).run Try.prog w = .ok (.agg (Array.replicate 128 (.bool false))) w := by kernel_rfl
/-- The array as it stands behind k places. -/
structure AB (w : World) (l : List Int) (k : Nat) (wr : World) : Prop where
  own : wr.ownsRow w.heap.size 59 1 (.slice (some ⟨w.heap.size, 0, none⟩) 128 128) 128 ((Od.HB l k).map Value.bool)
  bel : Below w.heap.size w wr
theorem AB.cell {w wr : World} {l : List Int} {k d : Nat} (h : AB w l k wr) (hd : d < 128) : wr.cell? ⟨w.heap.size, d, none⟩ = some (.bool (Od.hs l k d)) := by
  rw [h.own.cellAt d (by omega), List.getElem?_map, Od.HB_at hd]
  rfl
theorem AB.put {w wr : World} {l : List Int} {k d : Nat} (h : AB w l k wr) (hd : l.getD k 0 = (d : Int)) : AB w l (k + 1) (wr.setCell ⟨w.heap.size, d, none⟩ (.bool true)) := by
  refine ⟨?_, h.bel.setCell (p := ⟨w.heap.size, d, none⟩) (Nat.le_refl _) _⟩
  have := (h.own.stored d (.bool true)).1
  rw [← Od.HB_set hd, List.map_set]
  exact this
theorem turns_any (ao : Option Addr) (n cap : Nat) (l : List Int) (w : World) (h : Row .i64 w ao n cap l) (hf : Od.Fo l) :
    Calls Try.prog 25 #[.slice ao n cap] w fun e w' => ∃ a b, e = .returned (.tuple #[.int .i64 a, .int .i64 b]) ∧ Od.TT l a b ∧ KO w w' := by
  have hmx : n ≤ maxLen := Nat.le_trans h.le h.max
  unfold maxLen at hmx
  have H := hide h
  have HL := hide h.len
  have HF := hide hf
  clear h hf
  obtain ⟨cs, hcs⟩ : ∃ cs : Array Value, cs = Array.replicate 128 (.bool false) := ⟨_, rfl⟩
  have hz : ∀ W : World, (zeroValue 59).run Try.prog W = .ok (.agg cs) W := fun W => by rw [hcs]; exact zeroThere W
  have HO : Hid (AB w l 0 (w.alloc (.cells cs 59))) := hide ⟨by
    have h1 := World.ownsRow_lit (base := w.heap.size) (e := 59) (size := 1) w cs 128 (Nat.le_refl _) (by unfold maxLen; omega) (by rw [hcs]; simp)
    have h2 : cs.toList = (Od.HB l 0).map Value.bool := by rw [hcs, Od.HB_zero, Array.toList_replicate, List.map_replicate]
    rw [h2] at h1
    exact h1, KO.alloc (KO.refl w) _⟩
  clear hcs
  go_enter Try.func25, Try.ntmps25
  go_wp2
  go_loopw [6, 9] (fun s6 i wr => ∃ k : Nat, k ≤ n ∧ i = .int .i64 (k : Int) ∧ Hid (AB w l k wr)) (fun _ i _ => n - (intOf i).toNat)
  case atStart => exact ⟨0, Nat.zero_le _, rfl, HO⟩
  case round =>
    obtain ⟨k, hk, rfl, hm⟩ := hrel
    by_cases hlt : k < n
    · obtain ⟨b, off, rfl, hbl, hc⟩ := H.out.cells (by omega)
      have hkl : k < l.length := by rw [HL.out]; exact hlt
      have ck : wr.cell? ⟨b, off + k, none⟩ = some (.int .i64 (l.getD k 0)) := (hm.out.bel.cell (by exact hbl)).trans (hc k hkl)
      have hr := HF.out k hkl
      have hin : (k : Int) < (n : Int) := by omega
      clear hc
      by_cases h1 : l.getD k 0 = -1
      · have HM := hide (show AB w l (k + 1) wr from ⟨by rw [Od.HB_skip h1]; exact hm.out.own, hm.out.bel⟩)
        rw [h1] at ck
        clear hm h1 hr
        go_wp2
        go_roundw
        case rel => exact ⟨k + 1, by omega, by go_num, HM⟩
        case measure => simp [intOf]; omega
      · obtain ⟨d, hd⟩ := Int.eq_ofNat_of_zero_le (show 0 ≤ l.getD k 0 by omega)
        have hd2 : (d : Int) < 128 := by omega
        have HM := hide (hm.out.put hd)
        have hfz := hm.out.own.frozenAt d
        have hcd := hm.out.cell (d := d) (by omega)
        rw [hd] at ck
        have hne : ((d : Int) != -1) = true := bne_iff_ne.2 (by omega)
        generalize Od.hs l k d = old at hcd
        clear hm h1 hr hd
        go_wp2
        exact ⟨⟨k + 1, by omega, by go_num, HM⟩, by simp [intOf]; omega⟩
    · obtain rfl : k = n := by omega
      have hne : ¬ ((k : Int) < (k : Int)) := by omega
      have HM0 := hide (show AB w l l.length wr from by rw [HL.out]; exact hm.out)
      clear hm
      go_wp2
      go_loopw [2] (fun s2 W => ∃ p : Nat, p ≤ 129 ∧ p % 2 = 1 ∧ s2 = .int .i64 (p : Int) ∧ Hid (∀ d, d % 2 = 1 → d < p → Od.hs l l.length d = false) ∧ Hid (AB w l l.length W)) (fun s2 _ => 129 - (intOf s2).toNat)
      case atStart => exact ⟨1, by omega, rfl, rfl, hide (fun d h1 h2 => by omega), HM0⟩
      case round =>
        obtain ⟨p, hp, hp1, rfl, HLO, HM⟩ := hrel
        by_cases hp2 : p ≤ 127
        · have cp := HM.out.cell (d := p) (by omega)
          have hin2 : (p : Int) ≤ 127 := by omega
          have hin5 : (p : Int) < 128 := by omega
          by_cases hb : Od.hs l l.length p = true
          · rw [hb] at cp
            have HIS : Hid (p ≤ 127 → Od.hs l l.length p = true) := hide (fun _ => hb)
            clear hb
            go_wp2
            go_loopw [3] (fun s3 W => ∃ q : Nat, q ≤ 127 ∧ s3 = .int .i64 (q : Int) ∧ Hid (∀ d, q < d → d < 128 → Od.hs l l.length d = false) ∧ Hid (AB w l l.length W)) (fun s3 _ => (intOf s3).toNat)
            case atStart => exact ⟨127, Nat.le_refl _, rfl, hide (fun d h1 h2 => by omega), HM⟩
            case round =>
              rename_i W3
              obtain ⟨q, hq, rfl, hhi, hm3⟩ := hrel
              by_cases hq0 : 0 < q
              · have cq := hm3.out.cell (d := q) (by omega)
                have hin3 : (0 : Int) < (q : Int) := by omega
                have hin4 : (q : Int) < 128 := by omega
                by_cases hb3 : Od.hs l l.length q = true
                · rw [hb3] at cq
                  have HT := hide (Od.TT.made HF.out hp1 HLO.out HIS.out hq hhi.out (.inr hb3))
                  have HK := hide hm3.out.bel
                  clear hm3 hhi hb3
                  go_wp2
                  go_ret2
                  exact ⟨_, _, rfl, HT.out, HK.out⟩
                · have hb4 := Bool.not_eq_true _ ▸ hb3
                  have HHI : Hid (∀ d, q - 1 < d → d < 128 → Od.hs l l.length d = false) := hide (fun d h1 h2 => by
                    by_cases e : d = q
                    · subst e; exact (Bool.not_eq_true _).mp hb3
                    · exact hhi.out d (by omega) h2)
                  rw [(Bool.not_eq_true _).mp hb3] at cq
                  have e1 : ((q - 1 : Nat) : Int) = (q : Int) - 1 := by omega
                  clear hhi hb3 hb4
                  go_wp2
                  go_roundw
                  case rel => exact ⟨q - 1, by omega, by rw [e1], HHI, hm3⟩
                  case measure => simp [intOf]; omega
              · obtain rfl : q = 0 := by omega
                have HT := hide (Od.TT.made HF.out hp1 HLO.out HIS.out hq hhi.out (.inl rfl))
                have HK := hide hm3.out.bel
                clear hm3 hhi
                go_wp2
                go_ret2
                exact ⟨_, _, rfl, HT.out, HK.out⟩
          · have HLO2 : Hid (∀ d, d % 2 = 1 → d < p + 2 → Od.hs l l.length d = false) := hide (fun d h1 h2 => by
              by_cases e : d = p
              · subst e; exact (Bool.not_eq_true _).mp hb
              · exact HLO.out d h1 (by omega))
            rw [(Bool.not_eq_true _).mp hb] at cp
            clear HLO hb
            go_wp2
            go_roundw
            case rel => exact ⟨p + 2, by omega, by omega, by go_num, HLO2, HM⟩
            case measure => simp [intOf]; omega
        · have HIS : Hid (p ≤ 127 → Od.hs l l.length p = true) := hide (fun h => absurd h hp2)
          have hin2 : ¬ (p : Int) ≤ 127 := by omega
          go_wp2
          go_loopw [3] (fun s3 W => ∃ q : Nat, q ≤ 127 ∧ s3 = .int .i64 (q : Int) ∧ Hid (∀ d, q < d → d < 128 → Od.hs l l.length d = false) ∧ Hid (AB w l l.length W)) (fun s3 _ => (intOf s3).toNat)
          case atStart => exact ⟨127, Nat.le_refl _, rfl, hide (fun d h1 h2 => by omega), HM⟩
          case round =>
            rename_i W3
            obtain ⟨q, hq, rfl, hhi, hm3⟩ := hrel
            by_cases hq0 : 0 < q
            · have cq := hm3.out.cell (d := q) (by omega)
              have hin3 : (0 : Int) < (q : Int) := by omega
              have hin4 : (q : Int) < 128 := by omega
              by_cases hb3 : Od.hs l l.length q = true
              · rw [hb3] at cq
                have HT := hide (Od.TT.made HF.out hp1 HLO.out HIS.out hq hhi.out (.inr hb3))
                have HK := hide hm3.out.bel
                clear hm3 hhi hb3
                go_wp2
                go_ret2
                exact ⟨_, _, rfl, HT.out, HK.out⟩
              · have hb4 := Bool.not_eq_true _ ▸ hb3
                have HHI : Hid (∀ d, q - 1 < d → d < 128 → Od.hs l l.length d = false) := hide (fun d h1 h2 => by
                  by_cases e : d = q
                  · subst e; exact (Bool.not_eq_true _).mp hb3
                  · exact hhi.out d (by omega) h2)
                rw [(Bool.not_eq_true _).mp hb3] at cq
                have e1 : ((q - 1 : Nat) : Int) = (q : Int) - 1 := by omega
                clear hhi hb3 hb4
                go_wp2
                go_roundw
                case rel => exact ⟨q - 1, by omega, by rw [e1], HHI, hm3⟩
                case measure => simp [intOf]; omega
            · obtain rfl : q = 0 := by omega
              have HT := hide (Od.TT.made HF.out hp1 HLO.out HIS.out hq hhi.out (.inl rfl))
              have HK := hide hm3.out.bel
              clear hm3 hhi
              go_wp2
              go_ret2
              exact ⟨_, _, rfl, HT.out, HK.out⟩
end Go.Proofs.Ytmcbldllbnjipaa
