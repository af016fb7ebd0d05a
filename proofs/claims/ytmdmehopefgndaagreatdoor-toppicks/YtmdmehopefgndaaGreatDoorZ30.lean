import Derived.Test.YtmdmehopefgndaaGreatDoorZ29
import Derived.Test.YtmdmehopefgndaaGreatDoorZ18
import Derived.Test.YtmdmehopefgndaaGreatDoorZ28
import Derived.Test.YtmdmehopefgndaaGreatDoorZ21
import Derived.Deep.RegionHeld3
/- Glyphs; what is shown: plain mathematics. -/
namespace Go.Proofs.YtmdmehopefgndaaGreatDoor
set_option linter.unusedVariables false
namespace Mi
/-- A number as it is shown at a level. -/
def gl (r lv : Int) : Int := if (Ucd.mir r).2 = true ∧ 0 ≤ lv ∧ lv % 2 = 1 then (Ucd.mir r).1 else r
theorem gl_even {r lv : Int} (h : ¬ (0 ≤ lv ∧ lv % 2 = 1)) : gl r lv = r := by unfold gl; rw [if_neg (fun q => h q.2)]
theorem gl_yes {r lv : Int} (h : 0 ≤ lv ∧ lv % 2 = 1) (hm : (Ucd.mir r).2 = true) : gl r lv = (Ucd.mir r).1 := by unfold gl; rw [if_pos ⟨hm, h⟩]
theorem gl_no {r lv : Int} (hm : (Ucd.mir r).2 = false) : gl r lv = r := by unfold gl; rw [if_neg (fun q => by rw [hm] at q; cases q.1)]
/-- All odd levels are alike. -/
theorem gl_like {r a b : Int} (ha : 0 ≤ a ∧ a % 2 = 1) (hb : 0 ≤ b ∧ b % 2 = 1) : gl r a = gl r b := by
  cases hm : (Ucd.mir r).2 with
  | true => rw [gl_yes ha hm, gl_yes hb hm]
  | false => rw [gl_no hm, gl_no hm]
/-- Shown twice at odd levels it is the number. -/
theorem gl_twice {r a b : Int} (ha : 0 ≤ a ∧ a % 2 = 1) (hb : 0 ≤ b ∧ b % 2 = 1) : gl (gl r a) b = r := by
  cases hm : (Ucd.mir r).2 with
  | true =>
    have h := Ucd.twice hm
    rw [gl_yes ha hm, gl_yes hb (by rw [h]), h]
  | false => rw [gl_no hm, gl_no hm]
theorem gl_ok {r lv : Int} (h : -2147483648 ≤ r ∧ r ≤ 2147483647) : -2147483648 ≤ gl r lv ∧ gl r lv ≤ 2147483647 := by
  unfold gl
  split
  · have := Ucd.mir_ok r
    omega
  · exact h
/-- What is shown. -/
def SW (l lv : List Int) : List Int := (Od.OD lv).map fun i => gl (l.getD i 0) (lv.getD i 0)
theorem SW_len (l lv : List Int) : (SW l lv).length = (Od.OD lv).length := by simp [SW]
theorem SW_at {l lv : List Int} {k : Nat} (h : k < (Od.OD lv).length) : (SW l lv).getD k 0 = gl (l.getD ((Od.OD lv).getD k 0) 0) (lv.getD ((Od.OD lv).getD k 0) 0) := by simp [SW, List.getD, h]
/-- As far as k of the order's places are shown. -/
theorem SW_next {l lv : List Int} {k : Nat} (h : k < (Od.OD lv).length) : (SW l lv).take (k + 1) = (SW l lv).take k ++ [gl (l.getD ((Od.OD lv).getD k 0) 0) (lv.getD ((Od.OD lv).getD k 0) 0)] := by
  rw [take_snoc _ _ (by rw [SW_len]; exact h), SW_at h]
/-- One level alone. -/
theorem le_same {L : Int} (hL : 0 ≤ L) {n x y : Nat} (hx : x < n) (hy : y < n) : Od.le (List.replicate n L) x y = L := by
  have hat : ∀ i, i < n → (List.replicate n L).getD i 0 = L := fun i hi => by simp [List.getD, hi]
  have h1 := Od.le_le (lv := List.replicate n L) (x := x) (y := y) (z := x) (by rw [hat x hx]; exact hL) (by rw [hat y hy]; exact hL) (by rw [hat x hx]; exact hL) (by omega)
  have h2 : L ≤ Od.le (List.replicate n L) x y := Od.le_ge (by rw [hat x hx]; exact hL) (by rw [hat y hy]; exact hL) fun z hz _ => by rw [hat z (by omega)]; exact Int.le_refl _
  rw [hat x hx] at h1
  omega
theorem sn_same {L : Int} (hL : 0 ≤ L) {n z : Nat} : Od.sn (List.replicate n L) z = true ↔ z < n := by
  constructor
  · intro h
    have := (Od.sn_at h).1
    simpa using this
  · intro h
    refine Od.sn_of ?_ (by simpa using h)
    simpa [List.getD, h] using hL
theorem Fo_same {L : Int} (h0 : -1 ≤ L) (h1 : L ≤ 127) (n : Nat) : Od.Fo (List.replicate n L) := fun i hi => by
  have hi2 : i < n := by simpa using hi
  have e : (List.replicate n L).getD i 0 = L := by simp [List.getD, hi2]
  rw [e]
  exact ⟨h0, h1⟩
theorem OD_even {L : Int} (h0 : 0 ≤ L) (h1 : L ≤ 127) (he : L % 2 = 0) (n : Nat) : Od.OD (List.replicate n L) = List.range n := by
  refine Od.Vis.eq (Od.OD_vis (Fo_same (by omega) h1 n)) ⟨?_, fun z => by rw [List.mem_range, sn_same h0]⟩
  refine List.pairwise_lt_range.imp_of_mem ?_
  intro i j hi hj hij
  rw [List.mem_range] at hi hj
  unfold Od.Lf
  rw [le_same h0 hi hj, if_pos he]
  exact hij
theorem OD_odd {L : Int} (h0 : 0 ≤ L) (h1 : L ≤ 127) (ho : L % 2 = 1) (n : Nat) : Od.OD (List.replicate n L) = (List.range n).reverse := by
  refine Od.Vis.eq (Od.OD_vis (Fo_same (by omega) h1 n)) ⟨List.pairwise_reverse.2 ?_, fun z => by rw [List.mem_reverse, List.mem_range, sn_same h0]⟩
  refine List.pairwise_lt_range.imp_of_mem ?_
  intro i j hi hj hij
  rw [List.mem_range] at hi hj
  unfold Od.Lf
  rw [le_same h0 hj hi, if_neg (by omega)]
  exact hij
theorem range_at (n : Nat) {i : Nat} (h : i < n) : (List.range n).getD i 0 = i := by simp [List.getD, h]
theorem rrange_at (n : Nat) {i : Nat} (h : i < n) : (List.range n).reverse.getD i 0 = n - 1 - i := by
  simp [List.getD, h]
/-- A text of one even level is shown as it is. -/
theorem SW_even {L : Int} (h0 : 0 ≤ L) (h1 : L ≤ 127) (he : L % 2 = 0) {n : Nat} {l : List Int} (hn : l.length = n) : SW l (List.replicate n L) = l := by
  unfold SW
  rw [OD_even h0 h1 he]
  refine List.ext_getElem (by simp [hn]) fun i i1 i2 => ?_
  simp only [List.getElem_map, List.getElem_range]
  have e1 : (List.replicate n L).getD i 0 = L := by simp [List.getD, ← hn, i2]
  rw [e1, gl_even (by omega)]
  simp [List.getD, i2]
/-- One of an odd level turned about. -/
theorem SW_odd_len {L : Int} (h0 : 0 ≤ L) (h1 : L ≤ 127) (ho : L % 2 = 1) (n : Nat) (l : List Int) : (SW l (List.replicate n L)).length = n := by
  rw [SW_len, OD_odd h0 h1 ho]; simp
theorem SW_odd {L : Int} (h0 : 0 ≤ L) (h1 : L ≤ 127) (ho : L % 2 = 1) {n : Nat} {l : List Int} (hn : l.length = n) {i : Nat} (hi : i < n) : (SW l (List.replicate n L)).getD i 0 = gl (l.getD (n - 1 - i) 0) 1 := by
  have hl : (Od.OD (List.replicate n L)).length = n := by rw [OD_odd h0 h1 ho]; simp
  rw [SW_at (by rw [hl]; exact hi), OD_odd h0 h1 ho, rrange_at _ hi]
  have hi2 : n - 1 - i < n := by omega
  have e1 : (List.replicate n L).getD (n - 1 - i) 0 = L := by simp [List.getD, hi2]
  rw [e1]
  exact gl_like ⟨h0, ho⟩ (by decide)
/-- And then so again it is the text. -/
theorem SW_twice {L : Int} (h0 : 0 ≤ L) (h1 : L ≤ 127) (ho : L % 2 = 1) {n : Nat} {l : List Int} (hn : l.length = n) : SW (SW l (List.replicate n L)) (List.replicate n L) = l := by
  have hl := SW_odd_len h0 h1 ho n l
  refine List.ext_getElem (by rw [SW_odd_len h0 h1 ho, hn]) fun i i1 i2 => ?_
  have h3 : (SW (SW l (List.replicate n L)) (List.replicate n L)).getD i 0 = l.getD i 0 := by
    rw [SW_odd h0 h1 ho hl (by omega), SW_odd h0 h1 ho hn (by omega), show n - 1 - (n - 1 - i) = i by omega]
    exact gl_twice (by decide) (by decide)
  simpa [List.getD, i1, i2] using h3
end Mi
end Go.Proofs.YtmdmehopefgndaaGreatDoor

/- From which level on and down to which one stretches are turned about. -/
namespace Go.Proofs.YtmdmehopefgndaaGreatDoor
open Go.RowKit
set_option linter.unusedVariables false
set_option maxHeartbeats 1000000
set_option maxRecDepth 100000
namespace Od
/-- From a down to b. -/
structure TT (l : List Int) (a b : Int) : Prop where
  a1 : 1 ≤ a
  odd : a % 2 = 1
  low : ∀ z, sn l z = true → l.getD z 0 % 2 = 1 → a ≤ l.getD z 0
  is : a ≤ 127 → ∃ z, sn l z = true ∧ l.getD z 0 = a
  b0 : 0 ≤ b
  b1 : b ≤ 127
  high : ∀ z, sn l z = true → l.getD z 0 ≤ b
  bis : b = 0 ∨ ∃ z, sn l z = true ∧ l.getD z 0 = b
/-- Is the level d there among the first k? -/
def hs (l : List Int) (k d : Nat) : Bool := (List.range k).any fun i => l.getD i 0 == (d : Int)
theorem hs_iff {l : List Int} {k d : Nat} : hs l k d = true ↔ ∃ i, i < k ∧ l.getD i 0 = (d : Int) := by
  unfold hs
  rw [List.any_eq_true]
  constructor
  · rintro ⟨i, h1, h2⟩
    exact ⟨i, List.mem_range.1 h1, by simpa using h2⟩
  · rintro ⟨i, h1, h2⟩
    exact ⟨i, List.mem_range.2 h1, by simpa using h2⟩
/-- The array behind k places. -/
def HB (l : List Int) (k : Nat) : List Bool := (List.range 128).map fun d => hs l k d
theorem HB_zero (l : List Int) : HB l 0 = List.replicate 128 false := by
  refine List.ext_getElem (by simp [HB]) fun i h1 h2 => ?_
  rw [List.getElem_replicate]
  simp only [HB, List.getElem_map, List.getElem_range]
  rfl
theorem HB_at {l : List Int} {k d : Nat} (hd : d < 128) : (HB l k)[d]? = some (hs l k d) := by simp [HB, hd]
theorem HB_skip {l : List Int} {k : Nat} (h : l.getD k 0 = -1) : HB l (k + 1) = HB l k := by
  unfold HB
  refine List.map_congr_left fun d _ => ?_
  rw [Bool.eq_iff_iff, hs_iff, hs_iff]
  constructor
  · rintro ⟨i, h1, h2⟩
    refine ⟨i, ?_, h2⟩
    by_cases e : i = k
    · subst e; omega
    · omega
  · rintro ⟨i, h1, h2⟩
    exact ⟨i, by omega, h2⟩
theorem HB_set {l : List Int} {k d : Nat} (h : l.getD k 0 = (d : Int)) : (HB l k).set d true = HB l (k + 1) := by
  refine List.ext_getElem (by simp [HB]) fun i h1 h2 => ?_
  rw [List.getElem_set]
  simp only [HB, List.getElem_map, List.getElem_range]
  by_cases e : d = i
  · subst e
    rw [if_pos rfl, eq_comm, hs_iff]
    exact ⟨k, by omega, h⟩
  · rw [if_neg e, Bool.eq_iff_iff, hs_iff, hs_iff]
    constructor
    · rintro ⟨j, h3, h4⟩
      exact ⟨j, by omega, h4⟩
    · rintro ⟨j, h3, h4⟩
      refine ⟨j, ?_, h4⟩
      by_cases e2 : j = k
      · subst e2; omega
      · omega
theorem sn_hs {l : List Int} {d : Nat} : hs l l.length d = true ↔ ∃ z, sn l z = true ∧ l.getD z 0 = (d : Int) := by
  rw [hs_iff]
  constructor
  · rintro ⟨i, h1, h2⟩
    exact ⟨i, sn_of (by omega) h1, h2⟩
  · rintro ⟨z, h1, h2⟩
    exact ⟨z, (sn_at h1).1, h2⟩
theorem TT.made {l : List Int} (hf : Fo l) {p q : Nat} (h1 : p % 2 = 1) (h2 : ∀ d, d % 2 = 1 → d < p → hs l l.length d = false) (h3 : p ≤ 127 → hs l l.length p = true) (h4 : q ≤ 127) (h5 : ∀ d, q < d → d < 128 → hs l l.length d = false) (h6 : q = 0 ∨ hs l l.length q = true) : TT l (p : Int) (q : Int) := by
  have key : ∀ z, sn l z = true → ∃ d : Nat, l.getD z 0 = (d : Int) ∧ d < 128 ∧ hs l l.length d = true := fun z hz => by
    have h0 := (sn_at hz).2
    have h7 := hf z (sn_at hz).1
    obtain ⟨d, hd⟩ := Int.eq_ofNat_of_zero_le h0
    exact ⟨d, hd, by omega, sn_hs.2 ⟨z, hz, hd⟩⟩
  refine ⟨by omega, by omega, fun z hz ho => ?_, fun hp => ?_, by omega, by omega, fun z hz => ?_, ?_⟩
  · obtain ⟨d, hd, _, hh⟩ := key z hz
    rw [hd] at ho ⊢
    by_cases hlt : d < p
    · rw [h2 d (by omega) hlt] at hh; cases hh
    · omega
  · obtain ⟨z, hz, e⟩ := sn_hs.1 (h3 (by omega))
    exact ⟨z, hz, e⟩
  · obtain ⟨d, hd, hd2, hh⟩ := key z hz
    rw [hd]
    by_cases hlt : q < d
    · rw [h5 d hlt hd2] at hh; cases hh
    · omega
  · rcases h6 with rfl | h6
    · exact .inl rfl
    · obtain ⟨z, hz, e⟩ := sn_hs.1 h6
      exact .inr ⟨z, hz, e⟩
end Od
theorem zeroThere (w : World) : (zeroValue 74).run Tryz.prog w = .ok (.agg (Array.replicate 128 (.bool false))) w := by kernel_rfl
/-- The array as it stands behind k places. -/
structure AB (w : World) (l : List Int) (k : Nat) (wr : World) : Prop where
  own : wr.ownsRow w.heap.size 74 1 (.slice (some ⟨w.heap.size, 0, none⟩) 128 128) 128 ((Od.HB l k).map Value.bool)
  bel : Below w.heap.size w wr
theorem AB.cell {w wr : World} {l : List Int} {k d : Nat} (h : AB w l k wr) (hd : d < 128) : wr.cell? ⟨w.heap.size, d, none⟩ = some (.bool (Od.hs l k d)) := by
  rw [h.own.cellAt d (by omega), List.getElem?_map, Od.HB_at hd]
  rfl
theorem AB.put {w wr : World} {l : List Int} {k d : Nat} (h : AB w l k wr) (hd : l.getD k 0 = (d : Int)) : AB w l (k + 1) (wr.setCell ⟨w.heap.size, d, none⟩ (.bool true)) := by
  refine ⟨?_, h.bel.setCell (p := ⟨w.heap.size, d, none⟩) (Nat.le_refl _) _⟩
  have := (h.own.stored d (.bool true)).1
  rw [← Od.HB_set hd, List.map_set]
  exact this
theorem turns_any (ao : Option Addr) (n cap : Nat) (l : List Int) (w : World) (h : Row .i64 w ao n cap l) (hf : Od.Fo l) :
    Calls Tryz.prog 23 #[.slice ao n cap] w fun e w' => ∃ a b, e = .returned (.tuple #[.int .i64 a, .int .i64 b]) ∧ Od.TT l a b ∧ KO w w' := by
  have hmx : n ≤ maxLen := Nat.le_trans h.le h.max
  unfold maxLen at hmx
  have H := hide h
  have HL := hide h.len
  have HF := hide hf
  clear h hf
  obtain ⟨cs, hcs⟩ : ∃ cs : Array Value, cs = Array.replicate 128 (.bool false) := ⟨_, rfl⟩
  have hz : ∀ W : World, (zeroValue 74).run Tryz.prog W = .ok (.agg cs) W := fun W => by rw [hcs]; exact zeroThere W
  have HO : Hid (AB w l 0 (w.alloc (.cells cs 74))) := hide ⟨by
    have h1 := World.ownsRow_lit (base := w.heap.size) (e := 74) (size := 1) w cs 128 (Nat.le_refl _) (by unfold maxLen; omega) (by rw [hcs]; simp)
    have h2 : cs.toList = (Od.HB l 0).map Value.bool := by rw [hcs, Od.HB_zero, Array.toList_replicate, List.map_replicate]
    rw [h2] at h1
    exact h1, KO.alloc (KO.refl w) _⟩
  clear hcs
  go_enter Tryz.func23, Tryz.ntmps23
  go_wp2
  go_loopw [6, 9] (fun s6 i wr => ∃ k : Nat, k ≤ n ∧ i = .int .i64 (k : Int) ∧ Hid (AB w l k wr)) (fun _ i _ => n - (intOf i).toNat)
  case atStart => exact ⟨0, Nat.zero_le _, rfl, HO⟩
  case round =>
    obtain ⟨k, hk, rfl, hm⟩ := hrel
    by_cases hlt : k < n
    · obtain ⟨b, off, rfl, hbl, hc⟩ := H.out.cells (by omega)
      have hkl : k < l.length := by rw [HL.out]; exact hlt
      have ck : wr.cell? ⟨b, off + k, none⟩ = some (.int .i64 (l.getD k 0)) := (hm.out.bel.cell (by exact hbl)).trans (hc k hkl)
      have hr := HF.out k hkl
      have hin : (k : Int) < (n : Int) := by omega
      clear hc
      by_cases h1 : l.getD k 0 = -1
      · have HM := hide (show AB w l (k + 1) wr from ⟨by rw [Od.HB_skip h1]; exact hm.out.own, hm.out.bel⟩)
        rw [h1] at ck
        clear hm h1 hr
        go_wp2
        go_roundw
        case rel => exact ⟨k + 1, by omega, by go_num, HM⟩
        case measure => simp [intOf]; omega
      · obtain ⟨d, hd⟩ := Int.eq_ofNat_of_zero_le (show 0 ≤ l.getD k 0 by omega)
        have hd2 : (d : Int) < 128 := by omega
        have HM := hide (hm.out.put hd)
        have hfz := hm.out.own.frozenAt d
        have hcd := hm.out.cell (d := d) (by omega)
        rw [hd] at ck
        have hne : ((d : Int) != -1) = true := bne_iff_ne.2 (by omega)
        generalize Od.hs l k d = old at hcd
        clear hm h1 hr hd
        go_wp2
        exact ⟨⟨k + 1, by omega, by go_num, HM⟩, by simp [intOf]; omega⟩
    · obtain rfl : k = n := by omega
      have hne : ¬ ((k : Int) < (k : Int)) := by omega
      have HM0 := hide (show AB w l l.length wr from by rw [HL.out]; exact hm.out)
      clear hm
      go_wp2
      go_loopw [2] (fun s2 W => ∃ p : Nat, p ≤ 129 ∧ p % 2 = 1 ∧ s2 = .int .i64 (p : Int) ∧ Hid (∀ d, d % 2 = 1 → d < p → Od.hs l l.length d = false) ∧ Hid (AB w l l.length W)) (fun s2 _ => 129 - (intOf s2).toNat)
      case atStart => exact ⟨1, by omega, rfl, rfl, hide (fun d h1 h2 => by omega), HM0⟩
      case round =>
        obtain ⟨p, hp, hp1, rfl, HLO, HM⟩ := hrel
        by_cases hp2 : p ≤ 127
        · have cp := HM.out.cell (d := p) (by omega)
          have hin2 : (p : Int) ≤ 127 := by omega
          have hin5 : (p : Int) < 128 := by omega
          by_cases hb : Od.hs l l.length p = true
          · rw [hb] at cp
            have HIS : Hid (p ≤ 127 → Od.hs l l.length p = true) := hide (fun _ => hb)
            clear hb
            go_wp2
            go_loopw [3] (fun s3 W => ∃ q : Nat, q ≤ 127 ∧ s3 = .int .i64 (q : Int) ∧ Hid (∀ d, q < d → d < 128 → Od.hs l l.length d = false) ∧ Hid (AB w l l.length W)) (fun s3 _ => (intOf s3).toNat)
            case atStart => exact ⟨127, Nat.le_refl _, rfl, hide (fun d h1 h2 => by omega), HM⟩
            case round =>
              rename_i W3
              obtain ⟨q, hq, rfl, hhi, hm3⟩ := hrel
              by_cases hq0 : 0 < q
              · have cq := hm3.out.cell (d := q) (by omega)
                have hin3 : (0 : Int) < (q : Int) := by omega
                have hin4 : (q : Int) < 128 := by omega
                by_cases hb3 : Od.hs l l.length q = true
                · rw [hb3] at cq
                  have HT := hide (Od.TT.made HF.out hp1 HLO.out HIS.out hq hhi.out (.inr hb3))
                  have HK := hide hm3.out.bel
                  clear hm3 hhi hb3
                  go_wp2
                  go_ret2
                  exact ⟨_, _, rfl, HT.out, HK.out⟩
                · have hb4 := Bool.not_eq_true _ ▸ hb3
                  have HHI : Hid (∀ d, q - 1 < d → d < 128 → Od.hs l l.length d = false) := hide (fun d h1 h2 => by
                    by_cases e : d = q
                    · subst e; exact (Bool.not_eq_true _).mp hb3
                    · exact hhi.out d (by omega) h2)
                  rw [(Bool.not_eq_true _).mp hb3] at cq
                  have e1 : ((q - 1 : Nat) : Int) = (q : Int) - 1 := by omega
                  clear hhi hb3 hb4
                  go_wp2
                  go_roundw
                  case rel => exact ⟨q - 1, by omega, by rw [e1], HHI, hm3⟩
                  case measure => simp [intOf]; omega
              · obtain rfl : q = 0 := by omega
                have HT := hide (Od.TT.made HF.out hp1 HLO.out HIS.out hq hhi.out (.inl rfl))
                have HK := hide hm3.out.bel
                clear hm3 hhi
                go_wp2
                go_ret2
                exact ⟨_, _, rfl, HT.out, HK.out⟩
          · have HLO2 : Hid (∀ d, d % 2 = 1 → d < p + 2 → Od.hs l l.length d = false) := hide (fun d h1 h2 => by
              by_cases e : d = p
              · subst e; exact (Bool.not_eq_true _).mp hb
              · exact HLO.out d h1 (by omega))
            rw [(Bool.not_eq_true _).mp hb] at cp
            clear HLO hb
            go_wp2
            go_roundw
            case rel => exact ⟨p + 2, by omega, by omega, by go_num, HLO2, HM⟩
            case measure => simp [intOf]; omega
        · have HIS : Hid (p ≤ 127 → Od.hs l l.length p = true) := hide (fun h => absurd h hp2)
          have hin2 : ¬ (p : Int) ≤ 127 := by omega
          go_wp2
          go_loopw [3] (fun s3 W => ∃ q : Nat, q ≤ 127 ∧ s3 = .int .i64 (q : Int) ∧ Hid (∀ d, q < d → d < 128 → Od.hs l l.length d = false) ∧ Hid (AB w l l.length W)) (fun s3 _ => (intOf s3).toNat)
          case atStart => exact ⟨127, Nat.le_refl _, rfl, hide (fun d h1 h2 => by omega), HM⟩
          case round =>
            rename_i W3
            obtain ⟨q, hq, rfl, hhi, hm3⟩ := hrel
            by_cases hq0 : 0 < q
            · have cq := hm3.out.cell (d := q) (by omega)
              have hin3 : (0 : Int) < (q : Int) := by omega
              have hin4 : (q : Int) < 128 := by omega
              by_cases hb3 : Od.hs l l.length q = true
              · rw [hb3] at cq
                have HT := hide (Od.TT.made HF.out hp1 HLO.out HIS.out hq hhi.out (.inr hb3))
                have HK := hide hm3.out.bel
                clear hm3 hhi hb3
                go_wp2
                go_ret2
                exact ⟨_, _, rfl, HT.out, HK.out⟩
              · have hb4 := Bool.not_eq_true _ ▸ hb3
                have HHI : Hid (∀ d, q - 1 < d → d < 128 → Od.hs l l.length d = false) := hide (fun d h1 h2 => by
                  by_cases e : d = q
                  · subst e; exact (Bool.not_eq_true _).mp hb3
                  · exact hhi.out d (by omega) h2)
                rw [(Bool.not_eq_true _).mp hb3] at cq
                have e1 : ((q - 1 : Nat) : Int) = (q : Int) - 1 := by omega
                clear hhi hb3 hb4
                go_wp2
                go_roundw
                case rel => exact ⟨q - 1, by omega, by rw [e1], HHI, hm3⟩
                case measure => simp [intOf]; omega
            · obtain rfl : q = 0 := by omega
              have HT := hide (Od.TT.made HF.out hp1 HLO.out HIS.out hq hhi.out (.inl rfl))
              have HK := hide hm3.out.bel
              clear hm3 hhi
              go_wp2
              go_ret2
              exact ⟨_, _, rfl, HT.out, HK.out⟩
end Go.Proofs.YtmdmehopefgndaaGreatDoor

/- A piece of a row turned about in place; the stretches of one level and above. -/
namespace Go.Proofs.YtmdmehopefgndaaGreatDoor
open Go.RowKit
set_option linter.unusedVariables false
set_option maxHeartbeats 1000000
set_option maxRecDepth 100000
namespace Od
/-- A list of which m places from b on are turned about, as far as i from either end. -/
def RV (zs : List Int) (b m i : Nat) : List Int := (List.range zs.length).map fun x => if b ≤ x ∧ x < b + m ∧ (x - b < i ∨ m - 1 - (x - b) < i) then zs.getD (b + (m - 1 - (x - b))) 0 else zs.getD x 0
theorem RV_len (zs : List Int) (b m i : Nat) : (RV zs b m i).length = zs.length := by simp [RV]
theorem RV_at {zs : List Int} {b m i x : Nat} (hx : x < zs.length) : (RV zs b m i).getD x 0 = if b ≤ x ∧ x < b + m ∧ (x - b < i ∨ m - 1 - (x - b) < i) then zs.getD (b + (m - 1 - (x - b))) 0 else zs.getD x 0 := by simp [RV, List.getD, hx]
theorem list_getD {a b : List Int} (hl : a.length = b.length) (h : ∀ i, i < a.length → a.getD i 0 = b.getD i 0) : a = b := by
  refine List.ext_getElem hl fun i h1 h2 => ?_
  have := h i h1
  simpa [List.getD, h1, h2] using this
theorem RV_zero (zs : List Int) (b m : Nat) : RV zs b m 0 = zs := by
  refine list_getD (RV_len _ _ _ _) fun x hx => ?_
  rw [RV_len] at hx
  rw [RV_at hx, if_neg (by omega)]
theorem RV_step {zs : List Int} {b m i : Nat} (h : b + m ≤ zs.length) (hi : 2 * i + 1 < m) : ((RV zs b m i).set (b + i) (zs.getD (b + (m - 1 - i)) 0)).set (b + (m - 1 - i)) (zs.getD (b + i) 0) = RV zs b m (i + 1) := by
  refine list_getD (by simp [RV_len]) fun x hx => ?_
  simp only [List.length_set, RV_len] at hx
  rw [getD_set' _ _ _ _ (by simp only [List.length_set, RV_len]; omega), getD_set' _ _ _ _ (by rw [RV_len]; omega), RV_at hx, RV_at hx]
  by_cases h1 : b + (m - 1 - i) = x
  · rw [if_pos h1, if_pos (by omega), show b + (m - 1 - (x - b)) = b + i by omega]
  · rw [if_neg h1]
    by_cases h2 : b + i = x
    · rw [if_pos h2, if_pos (by omega), show b + (m - 1 - (x - b)) = b + (m - 1 - i) by omega]
    · rw [if_neg h2]
      by_cases h3 : b ≤ x ∧ x < b + m ∧ (x - b < i ∨ m - 1 - (x - b) < i)
      · rw [if_pos h3, if_pos (by omega)]
      · rw [if_neg h3, if_neg (by omega)]
theorem RV_end {zs : List Int} {b m i : Nat} (h : b + m ≤ zs.length) (hi : m ≤ 2 * i + 1) : RV zs b m i = RV zs b m m := by
  refine list_getD (by simp [RV_len]) fun x hx => ?_
  rw [RV_len] at hx
  rw [RV_at hx, RV_at hx]
  by_cases h3 : b ≤ x ∧ x < b + m
  · rw [if_pos (c := b ≤ x ∧ x < b + m ∧ (x - b < m ∨ m - 1 - (x - b) < m)) (by omega)]
    by_cases h4 : b ≤ x ∧ x < b + m ∧ (x - b < i ∨ m - 1 - (x - b) < i)
    · rw [if_pos h4]
    · rw [if_neg h4, show b + (m - 1 - (x - b)) = x by omega]
  · rw [if_neg (by omega), if_neg (by omega)]
theorem rev_at (M : List Int) {i : Nat} (h : i < M.length) : M.reverse.getD i 0 = M.getD (M.length - 1 - i) 0 := by
  simp [List.getD, List.getElem?_reverse h]
theorem RV_parts (A M R : List Int) : RV (A ++ (M ++ R)) A.length M.length M.length = A ++ (M.reverse ++ R) := by
  refine list_getD (by simp [RV_len]) fun x h1 => ?_
  rw [RV_len] at h1
  rw [RV_at h1]
  simp only [List.length_append] at h1
  by_cases hA : x < A.length
  · rw [if_neg (by omega), getD_left _ _ _ hA, getD_left _ _ _ hA]
  · obtain ⟨y, rfl⟩ : ∃ y, x = A.length + y := ⟨x - A.length, by omega⟩
    by_cases hM : y < M.length
    · rw [if_pos (by omega), getD_right, getD_right, getD_left _ _ _ (by omega), getD_left _ _ _ (by rw [List.length_reverse]; exact hM), rev_at M hM, show A.length + y - A.length = y by omega]
    · obtain ⟨z, rfl⟩ : ∃ z, y = M.length + z := ⟨y - M.length, by omega⟩
      rw [if_neg (by omega), getD_right, getD_right, getD_right]
      have := getD_right M.reverse R z
      rw [List.length_reverse] at this
      rw [this]
end Od
theorem reverse_any (base g n cap b m c2 : Nat) (ao : Option Addr) (zs : List Int) (w0 w : World) (h : OW base g n cap zs w0 w) (hbm : b + m ≤ n) (ha : 0 < m → ao = some ⟨g, b, none⟩) (hn : n ≤ 9223372036854775807) :
    Calls Tryz.prog 35 #[.slice ao m c2] w fun e w' => e = .returned (.tuple #[]) ∧ OW base g n cap (Od.RV zs b m m) w0 w' := by
  have HO := hide (show OW base g n cap (Od.RV zs b m 0) w0 w from by rw [Od.RV_zero]; exact h)
  have HLn : Hid (zs.length = n) := hide h.len
  have HA := hide ha
  clear h ha
  go_enter Tryz.func35, Tryz.ntmps35
  go_wp2
  go_loopw [2, 3] (fun s2 s3 W => ∃ (i : Nat) (jz : Int), s2 = .int .i64 (i : Int) ∧ s3 = .int .i64 jz ∧ jz = (m : Int) - 1 - (i : Int) ∧ i ≤ m ∧ Hid (OW base g n cap (Od.RV zs b m i) w0 W)) (fun s2 _ _ => m - (intOf s2).toNat)
  case atStart => exact ⟨0, _, rfl, rfl, by omega, by omega, HO⟩
  case round =>
    obtain ⟨i, jz, rfl, rfl, hj, hi, hm⟩ := hrel
    by_cases hlt : (i : Int) < jz
    · obtain ⟨jn, rfl⟩ : ∃ jn : Nat, jz = (jn : Int) := ⟨jz.toNat, by omega⟩
      have hjn : jn = m - 1 - i := by omega
      have HJ := hide hjn
      have hne : ¬ b + i = b + jn := by omega
      have hne2 : ¬ i = jn := by omega
      have hlt2 : i < jn := by omega
      have hin1 : (i : Int) < (m : Int) := by omega
      have hin2 : (jn : Int) < (m : Int) := by omega
      have hm0 : 0 < m := by omega
      have hao : ao = some ⟨g, b, none⟩ := HA.out hm0
      clear HA
      subst hao
      have ci := hm.out.cell (k := b + i) (by omega)
      have cj := hm.out.cell (k := b + jn) (by omega)
      have fi := hm.out.own.frozenAt (b + i)
      have fj := hm.out.own.frozenAt (b + jn)
      have hlz := HLn.out
      have ei : (Od.RV zs b m i).getD (b + i) 0 = zs.getD (b + i) 0 := by rw [Od.RV_at (by omega), if_neg (by omega)]
      have ej : (Od.RV zs b m i).getD (b + jn) 0 = zs.getD (b + jn) 0 := by rw [Od.RV_at (by omega), if_neg (by omega)]
      rw [ei] at ci
      rw [ej] at cj
      clear ei ej
      have hst := Od.RV_step (zs := zs) (b := b) (m := m) (i := i) (by omega) (by omega)
      rw [← hjn] at hst
      have hset := (hm.out.set (b + i) (zs.getD (b + jn) 0)).set (b + jn) (zs.getD (b + i) 0)
      rw [hst] at hset
      have HM := hide hset
      clear hset
      generalize zs.getD (b + i) 0 = x at ci HM
      generalize zs.getD (b + jn) 0 = y at cj HM
      clear hm hst hlz hjn hj
      go_wp2_with fail
      go_region
      go_wp2
      go_roundw
      case rel => exact ⟨i + 1, _, by go_num, rfl, by have := HJ.out; omega, by omega, hide HM.out.drew⟩
      case measure => simp [intOf]; omega
    · have HM := hide (show OW base g n cap (Od.RV zs b m m) w0 wr from by
        have := hm.out
        rw [Od.RV_end (by rw [HLn.out]; exact hbm) (by omega)] at this
        exact this)
      clear hm
      go_wp2
      go_end0
      exact ⟨rfl, HM.out⟩
end Go.Proofs.YtmdmehopefgndaaGreatDoor

/- All stretches of a level and above turned about; the visual order. -/
namespace Go.Proofs.YtmdmehopefgndaaGreatDoor
open Go.RowKit
set_option linter.unusedVariables false
set_option maxHeartbeats 1000000
set_option maxRecDepth 100000
namespace Od
theorem fl_all {p : Nat → Bool} (R : List Nat) : ∀ (M acc : List Nat), (∀ z ∈ M, p z = true) → fl p acc (M ++ R) = fl p (M.reverse ++ acc) R
  | [], acc, _ => rfl
  | x :: M, acc, h => by
    rw [List.cons_append, fl, if_pos (h x List.mem_cons_self), fl_all R M (x :: acc) fun z hz => h z (List.mem_cons_of_mem _ hz)]
    simp
/-- How far a list is turned about behind the place b. -/
structure TS (p : Nat → Bool) (P Q : List Nat) (b : Nat) : Prop where
  ex : ∃ D R, Q = D ++ R ∧ fl p [] P = D ++ fl p [] R ∧ (b = D.length ∨ (R = [] ∧ D.length ≤ b))
theorem TS.start (p : Nat → Bool) (P : List Nat) : TS p P P 0 := ⟨⟨[], P, rfl, rfl, .inl rfl⟩⟩
theorem TS.done {p : Nat → Bool} {P Q : List Nat} {b : Nat} (h : TS p P Q b) (hb : Q.length ≤ b) : Q = fl p [] P := by
  obtain ⟨D, R, rfl, e, h3⟩ := h.ex
  have : R = [] := by
    rcases h3 with h3 | h3
    · rw [List.length_append] at hb
      exact List.length_eq_zero_iff.1 (by omega)
    · exact h3.1
  subst this
  rw [e]; rfl
theorem TS.step {p : Nat → Bool} {P Q : List Nat} {b t : Nat} (h : TS p P Q b) (hb : b + t ≤ Q.length) (ht : ∀ i, i < t → p (Q.getD (b + i) 0) = true) (hs : b + t < Q.length → p (Q.getD (b + t) 0) = false) (hb0 : b < Q.length) :
    ∃ Q2, TS p P Q2 (b + t + 1) ∧ Z Q2 = RV (Z Q) b t t ∧ Q2.Perm Q := by
  obtain ⟨D, R, rfl, e, h3⟩ := h.ex
  have hbD : b = D.length := by
    rcases h3 with h3 | ⟨h3, h4⟩
    · exact h3
    · subst h3; rw [List.append_nil] at hb0; omega
  subst hbD
  rw [List.length_append] at hb hb0 hs
  have hat : ∀ i, (D ++ R).getD (D.length + i) 0 = R.getD i 0 := fun i => by simp [List.getD, List.getElem?_append_right]
  have hR : R = R.take t ++ R.drop t := (List.take_append_drop t R).symm
  have hlt : (R.take t).length = t := by rw [List.length_take]; omega
  have hall : ∀ z ∈ R.take t, p z = true := by
    intro z hz
    obtain ⟨i, hi, e1⟩ := List.getElem_of_mem hz
    rw [hlt] at hi
    have := ht i hi
    rw [hat] at this
    rw [List.getElem_take] at e1
    rw [← e1]
    simpa [List.getD, show i < R.length by omega] using this
  have hz : Z (D ++ ((R.take t).reverse ++ R.drop t)) = RV (Z (D ++ R)) D.length t t := by
    have h1 := RV_parts (Z D) (Z (R.take t)) (Z (R.drop t))
    rw [Z_len, Z_len, hlt] at h1
    have h2 : Z D ++ (Z (R.take t) ++ Z (R.drop t)) = Z (D ++ R) := by rw [hR]; simp [Z]
    rw [h2] at h1
    rw [h1]
    simp [Z]
  have hfl : fl p [] R = fl p (R.take t).reverse (R.drop t) := by
    have h1 := fl_all (p := p) (R.drop t) (R.take t) [] hall
    rw [List.take_append_drop, List.append_nil] at h1
    exact h1
  have hperm : (D ++ ((R.take t).reverse ++ R.drop t)).Perm (D ++ R) := by
    have h1 : ((R.take t).reverse ++ R.drop t).Perm (R.take t ++ R.drop t) := List.Perm.append_right _ (List.reverse_perm _)
    rw [List.take_append_drop] at h1
    exact List.Perm.append_left D h1
  refine ⟨D ++ ((R.take t).reverse ++ R.drop t), ?_, hz, hperm⟩
  cases hd : R.drop t with
  | nil =>
    refine ⟨⟨D ++ (R.take t).reverse, [], by simp, ?_, .inr ⟨rfl, ?_⟩⟩⟩
    · rw [e, hfl, hd]; simp [fl]
    · rw [List.length_append, List.length_reverse, hlt]; omega
  | cons x R2 =>
    have hlen : (R.drop t).length = R2.length + 1 := by rw [hd]; rfl
    rw [List.length_drop] at hlen
    have hx : p x = false := by
      have h1 := hs (by omega)
      rw [hat] at h1
      have h2 : R.getD t 0 = x := by
        have : (R.drop t)[0]? = some x := by rw [hd]; rfl
        rw [List.getElem?_drop, Nat.add_zero] at this
        simp [List.getD, this]
      rw [h2] at h1; exact h1
    refine ⟨⟨D ++ ((R.take t).reverse ++ [x]), R2, by simp, ?_, .inl ?_⟩⟩
    · rw [e, hfl, hd, fl, if_neg (by rw [hx]; exact Bool.false_ne_true)]; simp
    · rw [List.length_append, List.length_append, List.length_reverse, hlt]; simp; omega
end Od
theorem add_zero0 (g b : Nat) : (⟨g, 0, none⟩ : Addr).add b = ⟨g, b, none⟩ := by unfold Addr.add; split <;> simp_all
theorem oturn_any (n N cl : Nat) (al : Option Addr) (v : Value) (lv : List Int) (k : Int) (P : List Nat) (w0 w : World) (hl : Row .i64 w0 al N cl lv) (hb : KO w0 w) (ho : w.ownsRow w0.heap.size 3 1 v n ((Od.Z P).map (Value.int .i64))) (hP : ∀ x ∈ P, x < N) (hn : n ≤ 35184372087808) :
    Calls Tryz.prog 24 #[v, .slice al N cl, .int .i64 k] w fun e w' => e = .returned (.tuple #[]) ∧ KO w0 w' ∧ w'.ownsRow w0.heap.size 3 1 v n ((Od.Z (Od.turn lv k P)).map (Value.int .i64)) := by
  have hPn : P.length = n := by have := ho.1; simpa [Od.Z] using this
  by_cases hn0 : n = 0
  · subst hn0
    have hP0 : P = [] := List.length_eq_zero_iff.1 hPn
    subst hP0
    obtain ⟨a, c, rfl, _⟩ := owns_form ho
    have HO := hide ho
    have HB := hide hb
    clear ho hb hl hP hPn
    go_enter Tryz.func24, Tryz.ntmps24
    go_wp2
    go_loopw [6, 7] (fun s6 s7 W => s6 = .int .i64 0 ∧ W = w) (fun _ _ _ => 0)
    case atStart => exact ⟨rfl, rfl⟩
    case round =>
      obtain ⟨rfl, rfl⟩ := hrel
      go_wp2
      go_end0
      exact ⟨rfl, HB.out, HO.out⟩
  · obtain ⟨g, cap, rfl, hg, hcap⟩ := owns_pos ho (by omega)
    have HO : Hid (OW w0.heap.size g n cap (Od.Z P) w0 w) := hide ⟨ho, hb⟩
    have HL := hide hl
    have HLn := hide hl.len
    have HPn := hide hPn
    have HP := hide hP
    have hNm : N ≤ maxLen := Nat.le_trans hl.le hl.max
    unfold maxLen at hNm
    obtain ⟨ii, hii, _⟩ := info_parts infoInt
    have HII : Hid (Tryz.prog.info? 3 = some ii) := hii
    clear hii
    clear ho hb hl hP hPn hg
    go_enter Tryz.func24, Tryz.ntmps24
    go_wp2
    go_loopw [6, 7] (fun s6 s7 W => ∃ (b : Nat) (Q : List Nat), s6 = .int .i64 (b : Int) ∧ b ≤ n + 1 ∧ Hid (Od.TS (fun x => decide (k ≤ lv.getD x 0)) P Q b) ∧ Hid (Q.Perm P) ∧ Hid (OW w0.heap.size g n cap (Od.Z Q) w0 W)) (fun s6 _ _ => n + 1 - (intOf s6).toNat)
    case atStart => exact ⟨0, P, rfl, by omega, hide (Od.TS.start _ _), hide (List.Perm.refl _), HO⟩
    case round =>
      obtain ⟨b, Q, rfl, hbn, HT, HQ, hm⟩ := hrel
      have hQn : Q.length = n := by rw [HQ.out.length_eq]; exact HPn.out
      have HQn := hide hQn
      clear hQn
      by_cases hlt : b < n
      · have hin : (b : Int) < (n : Int) := by omega
        go_wp2
        go_loopw [7] (fun s7 W => ∃ e : Nat, s7 = .int .i64 (e : Int) ∧ b ≤ e ∧ e ≤ n ∧ Hid (∀ i, i < e - b → decide (k ≤ lv.getD (Q.getD (b + i) 0) 0) = true) ∧ Hid (OW w0.heap.size g n cap (Od.Z Q) w0 W)) (fun s7 _ => n - (intOf s7).toNat)
        case atStart => exact ⟨b, rfl, Nat.le_refl _, by omega, hide (fun i hi => by omega), hm⟩
        case round =>
          obtain ⟨e, rfl, hbe, hen, hall, hm2⟩ := hrel
          clear hm
          by_cases hlt2 : e < n
          · have hin2 : (e : Int) < (n : Int) := by omega
            have hxm : Q.getD e 0 ∈ Q := by
              have : Q.getD e 0 = Q[e]'(by rw [HQn.out]; exact hlt2) := by simp [List.getD, show e < Q.length by rw [HQn.out]; exact hlt2]
              rw [this]
              exact List.getElem_mem _
            have hxN : Q.getD e 0 < N := HP.out _ (HQ.out.mem_iff.1 hxm)
            have ce := hm2.out.cell hlt2
            rw [Od.Z_at Q (by rw [HQn.out]; exact hlt2)] at ce
            obtain ⟨bl, ol, rfl, hbl, hc⟩ := HL.out.cells (by omega)
            have cl2 : wr.cell? ⟨bl, ol + Q.getD e 0, none⟩ = some (.int .i64 (lv.getD (Q.getD e 0) 0)) := (hm2.out.bel.cell (by exact hbl)).trans (hc _ (by rw [HLn.out]; exact hxN))
            have hin3 : ((Q.getD e 0 : Nat) : Int) < (N : Int) := by omega
            clear hc hxm
            by_cases hk : k ≤ lv.getD (Q.getD e 0) 0
            · have HA : Hid (∀ i, i < e + 1 - b → decide (k ≤ lv.getD (Q.getD (b + i) 0) 0) = true) := hide (fun i hi => by
                by_cases e1 : b + i = e
                · rw [e1]; exact decide_eq_true hk
                · exact hall.out i (by omega))
              clear hall
              generalize lv.getD (Q.getD e 0) 0 = y at cl2 hk
              generalize Q.getD e 0 = x at ce cl2 hxN hin3
              go_wp2
              go_roundw
              case rel => exact ⟨e + 1, by go_num, by omega, by omega, HA, hm2⟩
              case measure => simp [intOf]; omega
            · have hstop : e < n → decide (k ≤ lv.getD (Q.getD e 0) 0) = false := fun _ => decide_eq_false hk
              generalize hy : lv.getD (Q.getD e 0) 0 = y at cl2 hk
              generalize hx : Q.getD e 0 = x at ce cl2 hxN hin3
              clear hy hx
              obtain ⟨Q2, hT2, hZ2, hQ2⟩ := HT.out.step (t := e - b) (by rw [HQn.out]; omega) (fun i hi => hall.out i (by omega)) (by rw [HQn.out, show b + (e - b) = e by omega]; exact hstop) (by rw [HQn.out]; exact hlt)
              rw [show b + (e - b) + 1 = e + 1 by omega] at hT2
              have HT2 := hide hT2
              have HQ2 := hide (hQ2.trans HQ.out)
              have hR := reverse_any w0.heap.size g n cap b (e - b) (cap - b) (tl (some ⟨g, 0, none⟩) cap b) (Od.Z Q) w0 wr hm2.out (by omega) (fun h0 => by unfold tl; rw [if_neg (by omega)]; exact congrArg some (add_zero0 g b)) (by omega)
              rw [← hZ2] at hR
              have HR := hide hR
              have hmid := fun W => run_mid (P := Tryz.prog) Tryz.underlying27 HII.out cellsInt (some ⟨g, 0, none⟩) n cap b e (by omega) (by omega) W
              clear hm2 hT2 hZ2 hQ2 hR hstop hall
              go_wp2_with (go_at_call 35; refine HR.out.mono ?_; rintro e2 w2 ⟨rfl, hw2⟩)
              have HM2 := hide hw2
              clear hw2
              go_wp2
              go_roundw
              case rel => exact ⟨e + 1, Q2, by go_num, by omega, HT2, HQ2, HM2⟩
              case measure => simp [intOf]; omega
          · have hstop : e < n → decide (k ≤ lv.getD (Q.getD e 0) 0) = false := fun h => absurd h hlt2
            obtain rfl : n = e := by omega
            have hne2 : ¬ (n : Int) < (n : Int) := by omega
            obtain ⟨Q2, hT2, hZ2, hQ2⟩ := HT.out.step (t := n - b) (by rw [HQn.out]; omega) (fun i hi => hall.out i (by omega)) (by rw [HQn.out, show b + (n - b) = n by omega]; exact hstop) (by rw [HQn.out]; exact hlt)
            rw [show b + (n - b) + 1 = n + 1 by omega] at hT2
            have HT2 := hide hT2
            have HQ2 := hide (hQ2.trans HQ.out)
            have hR := reverse_any w0.heap.size g n cap b (n - b) (cap - b) (tl (some ⟨g, 0, none⟩) cap b) (Od.Z Q) w0 wr hm2.out (by omega) (fun h0 => by unfold tl; rw [if_neg (by omega)]; exact congrArg some (add_zero0 g b)) (by omega)
            rw [← hZ2] at hR
            have HR := hide hR
            have hmid := fun W => run_mid (P := Tryz.prog) Tryz.underlying27 HII.out cellsInt (some ⟨g, 0, none⟩) n cap b n (by omega) (by omega) W
            clear hm2 hT2 hZ2 hQ2 hR hstop hall
            go_wp2_with (go_at_call 35; refine HR.out.mono ?_; rintro e2 w2 ⟨rfl, hw2⟩)
            have HM2 := hide hw2
            clear hw2
            go_wp2
            go_roundw
            case rel => exact ⟨n + 1, Q2, by go_num, by omega, HT2, HQ2, HM2⟩
            case measure => simp [intOf]; omega
      · have HD := hide (HT.out.done (by rw [HQn.out]; omega))
        have HM := hide (show OW w0.heap.size g n cap (Od.Z (Od.turn lv k P)) w0 wr from by
          have := hm.out
          rw [HD.out] at this
          exact this)
        have hne : ¬ (b : Int) < (n : Int) := by omega
        clear hm
        go_wp2
        go_end0
        exact ⟨rfl, HM.out.bel, HM.out.own⟩
end Go.Proofs.YtmdmehopefgndaaGreatDoor
