/- sepsAhead, behindSep, Para. -/
import Derived.Test.YteiljaecaahonaaOps
namespace Go.Proofs.Yteiljaecaahonaa
open Go.RowKit
set_option linter.unusedVariables false
set_option maxHeartbeats 2000000
set_option maxRecDepth 100000
theorem sepsAhead_any (t : Tr) (i : Nat) (w : World) (h : Lies w t) (hi : i ≤ t.size) (hs : t.size ≤ 4611686018427387904) :
    Calls Try.prog 46 #[.pointer t.at, .int .i64 (i : Int)] w fun e w' => e = .returned (.int .i64 (seps (t.list.take i) : Int)) ∧ Below w.heap.size w w' := by
  obtain ⟨tot, htot⟩ : ∃ tot, seps (t.list.take i) = tot := ⟨_, rfl⟩
  have htot2 : tot ≤ 4611686018427387904 := by rw [← htot]; have := seps_le (t.list.take i); rw [List.length_take] at this; unfold Tr.size at hs; omega
  rw [htot]
  have HH := hide h
  have HI := hide hi
  have HT := hide htot
  have HT2 := hide htot2
  have HS := hide hs
  clear h hi htot htot2 hs
  go_enter Try.func46, Try.ntmps46
  go_wp2_with fail
  go_loopg [0, 1, 5] t.high (fun k p v0 v1 wr => ∃ (c : Tr) (j n : Nat), p = .pointer c.at ∧ v0 = .int .i64 (j : Int) ∧ v1 = .int .i64 (n : Int) ∧ Hid (Lies w c) ∧ Hid (j ≤ c.size) ∧ Hid (n + seps (c.list.take j) = tot) ∧ Hid (c.size ≤ 4611686018427387904) ∧ Hid (c.high ≤ k) ∧ KO w wr)
  case atStart => exact ⟨t, i, 0, rfl, rfl, rfl, HH.out, HI.out, show 0 + _ = _ from (by rw [HT.out]; omega), HS.out, Nat.le_refl _, KO.refl _⟩
  case round =>
    obtain ⟨c, j, n, rfl, rfl, rfl, hc, hj, hn, hcs, hck, hkr⟩ := hrel
    rcases Nat.eq_zero_or_pos j with h0 | h0
    · subst h0
      have HE := hide (show n = tot from by have := hn.out; simpa using this)
      go_wp2_with fail
      go_ret
      exact ⟨by rw [← HE.out]; rfl, hkr⟩
    · have h0' : (0 : Int) < (j : Int) := by omega
      cases c with
      | nil => have := hj.out; simp at this; omega
      | node b l x r =>
        have htop := hc.out.top hcs.out
        obtain ⟨c0, c1, c2, c3, c4, c5, hl, hr⟩ := hc.out
        have hlt : b < w.heap.size := by simpa using World.block_lt_of_cell? w _ c0
        obtain ⟨pl, hpl⟩ : ∃ pl, l.at = pl := ⟨_, rfl⟩
        obtain ⟨pr, hpr⟩ : ∃ pr, r.at = pr := ⟨_, rfl⟩
        have d0 := (Below.cell hkr (by exact hlt)).trans c0
        have d1 := (Below.cell hkr (by exact hlt)).trans c1
        have HL := hide (len_any l wr (hl.below hkr))
        have HSP := hide (seps_any l wr (hl.below hkr))
        have HO := hide (own_any b x wr (htop.below hkr))
        rw [hpl] at d0 HL HSP
        rw [hpr] at d1
        have hj' := hj.out
        have hn' := hn.out
        have hcs' := hcs.out
        have hck' := hck.out
        rw [Tr.size_node] at hj' hcs'
        rw [Tr.high_node] at hck'
        rw [Tr.list_node] at hn'
        have hm1 : l.high ≤ Nat.max l.high r.high := Nat.le_max_left ..
        have hm2 : r.high ≤ Nat.max l.high r.high := Nat.le_max_right ..
        have hbl := l.brk_le
        rw [Tr.at_node]
        by_cases hle : j ≤ l.size
        · have hle' : (j : Int) ≤ (l.size : Int) := by omega
          have HJ := hide hj'
          have HN := hide hn'
          have HCS := hide hcs'
          have HCK := hide hck'
          have HM1 := hide hm1
          have HLE := hide hle
          have HPL := hide hpl
          have HLI := hide hl
          clear htop c0 c1 c2 c3 c4 c5 hl hr hpl hpr hj' hn' hcs' hck' hm1 hm2 hbl hj hn hcs hck hc h0 hle
          go_wp2_with (go_at_call 48; refine HL.out.mono ?_; rintro e w' ⟨rfl, rfl⟩)
          go_roundg l.high
          case measure => have := HCK.out; have := HM1.out; omega
          case rel =>
            refine ⟨l, j, n, by rw [HPL.out], rfl, rfl, HLI.out, HLE.out, ?_, ?_, Nat.le_refl _, hkr⟩
            · have h := HN.out
              rw [take_left (by have := HLE.out; unfold Tr.size at this; exact this)] at h
              exact h
            · show l.size ≤ _; have := HCS.out; omega
        · have hle' : ¬ ((j : Int) ≤ (l.size : Int)) := by omega
          obtain ⟨k2, hk2⟩ : ∃ k2 : Nat, j = l.list.length + 1 + k2 := ⟨j - (l.list.length + 1), by unfold Tr.size at hle; omega⟩
          have hsl : l.size = l.list.length := rfl
          have hn2 : n + l.brk + sep x + seps (r.list.take k2) = tot := by
            rw [hk2, take_right, seps_append, seps_cons] at hn'
            show n + seps l.list + sep x + _ = tot
            omega
          have ht2 := HT2.out
          have p1 : (l.brk : Int) + (sep x : Int) = ((l.brk + sep x : Nat) : Int) := by omega
          have p2 : (n : Int) + ((l.brk + sep x : Nat) : Int) = ((n + l.brk + sep x : Nat) : Int) := by omega
          have p3 : (j : Int) - (l.size : Int) = ((j - l.size : Nat) : Int) := by omega
          have p4 : ((j - l.size : Nat) : Int) - 1 = (k2 : Int) := by omega
          have b1 : l.brk + sep x ≤ 9223372036854775807 := by omega
          have b2 : n + l.brk + sep x ≤ 9223372036854775807 := by omega
          have b3 : j - l.size ≤ 9223372036854775807 := by omega
          have b4 : k2 ≤ 9223372036854775807 := by omega
          have e1 := w64_nat p1 b1
          have e2 := w64_nat p2 b2
          have e3 := w64_nat p3 b3
          have e4 := w64_nat p4 b4
          clear p1 p2 p3 p4 b1 b2 b3 b4
          obtain ⟨q4, hq4⟩ : ∃ q4, j - l.size = q4 := ⟨_, rfl⟩
          rw [hq4] at e3 e4
          clear hq4
          obtain ⟨q1, hq1⟩ : ∃ q1, l.brk + sep x = q1 := ⟨_, rfl⟩
          obtain ⟨q2, hq2⟩ : ∃ q2, n + l.brk + sep x = q2 := ⟨_, rfl⟩
          rw [hq1] at e1 e2
          rw [hq2] at e2 hn2
          have HN := hide hn2
          have HCS := hide hcs'
          have HCK := hide hck'
          have HM2 := hide hm2
          have HPR := hide hpr
          have HRI := hide hr
          have HJ := hide hj'
          have HK2 := hide hk2
          have HSL := hide hsl
          clear htop c0 c1 c2 c3 c4 c5 hl hr hpl hpr hj' hn' hcs' hck' hm1 hm2 hbl hj hn hcs hck hc h0 hle hn2 ht2 hq1 hq2 hk2 hsl
          go_wp2_with (first
            | (go_at_call 48; refine HL.out.mono ?_; rintro e w' ⟨rfl, rfl⟩)
            | (go_at_call 49; refine HSP.out.mono ?_; rintro e w' ⟨rfl, rfl⟩)
            | (go_at_call 59; refine HO.out.mono ?_; rintro e w' ⟨rfl, nd, rfl⟩))
          go_roundg r.high
          case measure => have := HCK.out; have := HM2.out; omega
          case rel =>
            refine ⟨r, k2, q2, by rw [HPR.out], by first | rfl | rw [e4], by first | rfl | rw [e2], HRI.out, ?_, HN.out, ?_, Nat.le_refl _, KO.on hkr (Below.drewN _ _)⟩
            · show k2 ≤ r.size; have := HJ.out; have := HK2.out; have := HSL.out; omega
            · show r.size ≤ _; have := HCS.out; omega
theorem behindSep_any (t : Tr) (i : Nat) (w : World) (h : Lies w t) (hs : t.size ≤ 2305843009213693952) (hi : i ≤ 4611686018427387904) :
    Calls Try.prog 47 #[.pointer t.at, .int .i64 (i : Int)] w fun e w' => e = .returned (.int .i64 (bh t.list i : Int)) ∧ Below w.heap.size w w' := by
  obtain ⟨tot, htot⟩ : ∃ tot, bh t.list i = tot := ⟨_, rfl⟩
  rw [htot]
  have HH := hide h
  have HI := hide hi
  have HT := hide htot
  have HS := hide hs
  clear h hi htot hs
  go_enter Try.func47, Try.ntmps47
  go_wp2_with fail
  go_loopg [0, 1, 5] t.high (fun k p v0 v1 wr => ∃ (c : Tr) (j n : Nat), p = .pointer c.at ∧ v0 = .int .i64 (j : Int) ∧ v1 = .int .i64 (n : Int) ∧ Hid (Lies w c) ∧ Hid (j ≤ 4611686018427387904) ∧ Hid (n + bh c.list j = tot) ∧ Hid (n + c.size ≤ 2305843009213693952) ∧ Hid (c.high ≤ k) ∧ KO w wr)
  case atStart => exact ⟨t, i, 0, rfl, rfl, rfl, HH.out, HI.out, show 0 + _ = _ from (by rw [HT.out]; omega), show 0 + _ ≤ _ from (by have := HS.out; omega), Nat.le_refl _, KO.refl _⟩
  case round =>
    obtain ⟨c, j, n, rfl, rfl, rfl, hc, hj, hn, hcs, hck, hkr⟩ := hrel
    cases c with
    | nil =>
      have HE := hide (show n = tot from by have := hn.out; simpa using this)
      rw [Tr.at_nil]
      go_wp2_with fail
      go_ret
      exact ⟨by rw [← HE.out]; rfl, hkr⟩
    | node b l x r =>
      have htop := hc.out.top (by have := hcs.out; omega)
      obtain ⟨c0, c1, c2, c3, c4, c5, hl, hr⟩ := hc.out
      have hlt : b < w.heap.size := by simpa using World.block_lt_of_cell? w _ c0
      obtain ⟨pl, hpl⟩ : ∃ pl, l.at = pl := ⟨_, rfl⟩
      obtain ⟨pr, hpr⟩ : ∃ pr, r.at = pr := ⟨_, rfl⟩
      have d0 := (Below.cell hkr (by exact hlt)).trans c0
      have d1 := (Below.cell hkr (by exact hlt)).trans c1
      have HL := hide (len_any l wr (hl.below hkr))
      have HSP := hide (seps_any l wr (hl.below hkr))
      have HO := hide (own_any b x wr (htop.below hkr))
      rw [hpl] at d0 HL HSP
      rw [hpr] at d1
      have hj' := hj.out
      have hn' := hn.out
      have hcs' := hcs.out
      have hck' := hck.out
      rw [Tr.size_node] at hcs'
      rw [Tr.high_node] at hck'
      rw [Tr.list_node] at hn'
      have hm1 : l.high ≤ Nat.max l.high r.high := Nat.le_max_left ..
      have hm2 : r.high ≤ Nat.max l.high r.high := Nat.le_max_right ..
      have hbl := l.brk_le
      rw [Tr.at_node]
      by_cases hle : j ≤ l.brk
      · have hle' : (j : Int) ≤ (l.brk : Int) := by omega
        rw [bh_left _ _ _ (show j ≤ seps l.list from hle)] at hn'
        have HN := hide hn'
        have HCS := hide hcs'
        have HCK := hide hck'
        have HM1 := hide hm1
        have HPL := hide hpl
        have HLI := hide hl
        clear htop c0 c1 c2 c3 c4 c5 hl hr hpl hpr hj' hn' hcs' hck' hm1 hm2 hbl hn hcs hck hc hle
        go_wp2_with (go_at_call 49; refine HSP.out.mono ?_; rintro e w' ⟨rfl, rfl⟩)
        go_roundg l.high
        case measure => have := HCK.out; have := HM1.out; omega
        case rel =>
          refine ⟨l, j, n, by rw [HPL.out], rfl, rfl, HLI.out, hj, HN.out, ?_, Nat.le_refl _, hkr⟩
          show n + l.size ≤ _; have := HCS.out; omega
      · have hle' : ¬ ((j : Int) ≤ (l.brk : Int)) := by omega
        have hsl : l.size = l.list.length := rfl
        rw [bh_node _ _ _ _ (show seps l.list < j from by unfold Tr.brk at hle; omega)] at hn'
        have hsx := sep_le x
        have hbe : l.brk = seps l.list := rfl
        obtain ⟨k2, hk2⟩ : ∃ k2 : Nat, j - (seps l.list + sep x) = k2 := ⟨_, rfl⟩
        rw [hk2] at hn'
        have p1 : (l.size : Int) + 1 = ((l.size + 1 : Nat) : Int) := by omega
        have p2 : (n : Int) + ((l.size + 1 : Nat) : Int) = ((n + (l.size + 1) : Nat) : Int) := by omega
        have p3 : (l.brk : Int) + (sep x : Int) = ((l.brk + sep x : Nat) : Int) := by omega
        have p4 : (j : Int) - ((l.brk + sep x : Nat) : Int) = (k2 : Int) := by omega
        have b1 : l.size + 1 ≤ 9223372036854775807 := by omega
        have b2 : n + (l.size + 1) ≤ 9223372036854775807 := by omega
        have b3 : l.brk + sep x ≤ 9223372036854775807 := by omega
        have b4 : k2 ≤ 9223372036854775807 := by omega
        have hk3 : k2 ≤ 4611686018427387904 := by omega
        have hn2 : n + (l.size + 1) + bh r.list k2 = tot := by rw [hsl]; omega
        have hcs2 : n + (l.size + 1) + r.size ≤ 2305843009213693952 := by omega
        have e1 := w64_nat p1 b1
        have e2 := w64_nat p2 b2
        have e3 := w64_nat p3 b3
        have e4 := w64_nat p4 b4
        clear p1 p2 p3 p4 b1 b2 b3 b4
        obtain ⟨q1, hq1⟩ : ∃ q1, l.size + 1 = q1 := ⟨_, rfl⟩
        rw [hq1] at e1 e2 hn2 hcs2
        obtain ⟨q2, hq2⟩ : ∃ q2, n + q1 = q2 := ⟨_, rfl⟩
        rw [hq2] at e2 hn2 hcs2
        obtain ⟨q3, hq3⟩ : ∃ q3, l.brk + sep x = q3 := ⟨_, rfl⟩
        rw [hq3] at e3 e4
        have HN := hide hn2
        have HCS := hide hcs2
        have HCK := hide hck'
        have HM2 := hide hm2
        have HPR := hide hpr
        have HRI := hide hr
        have HK3 := hide hk3
        clear htop c0 c1 c2 c3 c4 c5 hl hr hpl hpr hj' hn' hcs' hck' hm1 hm2 hbl hj hn hcs hck hc hle hn2 hcs2 hq1 hq2 hq3 hk2 hsl hsx hbe hk3
        go_wp2_with (first
          | (go_at_call 48; refine HL.out.mono ?_; rintro e w' ⟨rfl, rfl⟩)
          | (go_at_call 49; refine HSP.out.mono ?_; rintro e w' ⟨rfl, rfl⟩)
          | (go_at_call 59; refine HO.out.mono ?_; rintro e w' ⟨rfl, nd, rfl⟩))
        go_roundg r.high
        case measure => have := HCK.out; have := HM2.out; omega
        case rel =>
          exact ⟨r, k2, q2, by rw [HPR.out], by first | rfl | rw [e4], by first | rfl | rw [e2], HRI.out, HK3.out, HN.out, HCS.out, Nat.le_refl _, KO.on hkr (Below.drewN _ _)⟩
/-- The paragraph of a place: its number, where it begins and ends. -/
theorem Para_ok (b : Nat) (t : Tr) (i : Nat) (w : World) (h : IsRope w b t) (hi : i ≤ t.size) (hs : t.size ≤ 2305843009213693952) :
    Calls Try.prog 19 #[.pointer (some ⟨b, 0, none⟩), .int .i64 (i : Int)] w fun e w' =>
      e = .returned (.tuple #[.int .i64 (seps (t.list.take i) : Int), .int .i64 (bh t.list (seps (t.list.take i)) : Int), .int .i64 (bh t.list (seps (t.list.take i) + 1) : Int), .int .i64 0]) ∧ Below w.heap.size w w' := by
  have HT := hide (stretch_rope b t i i w h)
  rw [bad_ok (by omega) (Int.le_refl _) (by omega)] at HT
  have HA := hide (sepsAhead_any t i w h.lies hi (by omega))
  have hsl : seps (t.list.take i) ≤ 2305843009213693952 := by have := seps_le (t.list.take i); rw [List.length_take] at this; unfold Tr.size at hs; omega
  obtain ⟨m, hm⟩ : ∃ m, seps (t.list.take i) = m := ⟨_, rfl⟩
  rw [hm] at HA hsl ⊢
  have HB1 := hide (fun w' (hk : KO w w') => behindSep_any t m w' (h.lies.below hk) hs (by omega))
  have HB2 := hide (fun w' (hk : KO w w') => behindSep_any t (m + 1) w' (h.lies.below hk) hs (by omega))
  have c := h.top
  have hlt := h.lt
  obtain ⟨p, hp⟩ : ∃ p, t.at = p := ⟨_, rfl⟩
  rw [hp] at HA HB1 HB2 c
  have e1 : IntKind.i64.wrap ((m : Int) + 1) = ((m + 1 : Nat) : Int) := by rw [wrap_small (by omega) (by omega)]; omega
  obtain ⟨m1, hm1⟩ : ∃ m1, m + 1 = m1 := ⟨_, rfl⟩
  rw [hm1] at e1 HB2 ⊢
  clear h hi hs hsl hm hp hm1
  go_enter Try.func19, Try.ntmps19
  go_wp2_with (first
    | (go_at_call 43; refine HT.out.mono ?_; rintro e w' ⟨rfl, rfl⟩)
    | (go_at_call 46; refine HA.out.mono ?_; rintro e w1 ⟨rfl, hb1⟩))
  have hk1 : KO w w1 := hb1
  have k0 : ∀ w', KO w1 w' → w'.cell? ⟨b, 1, none⟩ = some (.pointer p) := fun w' hk => (Below.cell (KO.on hk1 hk) (by exact hlt)).trans c
  have hB := KO.refl w1
  clear hb1 c hlt HA HT
  refine wp_region_noPanic ?_
  go_region_held (fun w' => KO w1 w') (first | assumption | exact KO.drew hB)
    (first
      | (go_at_call_of 47 m1; refine (HB2.out _ (KO.on hk1 (by assumption))).mono ?_; rintro e wB ⟨rfl, hbB⟩; have hkB : KO w1 wB := KO.on (by assumption) hbB)
      | (go_at_call_of 47 m; refine (HB1.out _ (KO.on hk1 (by assumption))).mono ?_; rintro e wA ⟨rfl, hbA⟩; have hkA : KO w1 wA := KO.on (by assumption) hbA))
  all_goals (
    refine NoPanic.normal ?_
    go_wp2
    refine bodyPost_ret (by simp [results, Try.results19, go_sem]; rfl) rfl ?_
    exact ⟨rfl, KO.on hk1 hkB⟩)
theorem Para_bad (b : Nat) (t : Tr) (i : Int) (w : World) (h : IsRope w b t) (hb : ¬ (0 ≤ i ∧ i ≤ (t.size : Int))) :
    Calls Try.prog 19 #[.pointer (some ⟨b, 0, none⟩), .int .i64 i] w fun e w' => e = .returned (.tuple #[.int .i64 0, .int .i64 0, .int .i64 0, .int .i64 4]) ∧ w = w' := by
  have HT := hide (stretch_rope b t i i w h)
  rw [bad_no (by omega)] at HT
  clear h hb
  go_enter Try.func19, Try.ntmps19
  go_wp2_with (go_at_call 43; refine HT.out.mono ?_; rintro e w' ⟨rfl, rfl⟩)
  refine bodyPost_ret (by simp [results, Try.results19, go_sem]; rfl) rfl ?_
  exact ⟨rfl, rfl⟩
theorem Para_nobody (p : Option Addr) (i : Int) (w : World) (h : Nobody w p) :
    Calls Try.prog 19 #[.pointer p, .int .i64 i] w fun e w' => e = .returned (.tuple #[.int .i64 0, .int .i64 0, .int .i64 0, .int .i64 1]) ∧ w = w' := by
  have HT := hide (stretch_nobody p i i w h)
  clear h
  go_enter Try.func19, Try.ntmps19
  go_wp2_with (go_at_call 43; refine HT.out.mono ?_; rintro e w' ⟨rfl, rfl⟩)
  refine bodyPost_ret (by simp [results, Try.results19, go_sem]; rfl) rfl ?_
  exact ⟨rfl, rfl⟩
end Go.Proofs.Yteiljaecaahonaa
