/- RopeBalanced: however a rope was made, it is not deeper than it may be. -/
import Derived.Test.YteiljaecaahonaaWk
import Derived.Test.YteiljaecaahonaaActs
import Derived.Deep.QuietTactic
import Derived.BigQuiet
import Derived.Deep.RegionHeld3
namespace Go.Proofs.Yteiljaecaahonaa
open Go.RowKit
set_option linter.unusedVariables false
set_option maxRecDepth 100000
set_option maxHeartbeats 4000000
theorem among_all (x : Int) (n : Nat) (hx : (Lit.int .i64 x).wf = true) (h0 : 0 < n) (hn : n ≤ 4611686018427387904) :
    ∃ k : Nat, k < n ∧ ∀ w, Calls Try.prog 25 #[.int .i64 x, .int .i64 (n : Int)] w fun e w' => e = .returned (.int .i64 (k : Int)) ∧ w = w' := by
  have hx1 := bounds_i64 hx
  obtain ⟨r, hr⟩ : ∃ r, x.tmod (n : Int) = r := ⟨_, rfl⟩
  have hr1 : -(n : Int) < r := by rw [← hr]; exact Int.lt_tmod_of_pos x (by omega)
  have hr2 : r < (n : Int) := by rw [← hr]; exact Int.tmod_lt_of_pos x (by omega)
  obtain ⟨q, hq⟩ : ∃ q, r + (n : Int) = q := ⟨_, rfl⟩
  have hq0 : 0 ≤ q := by omega
  obtain ⟨k, hk⟩ : ∃ k : Nat, q.tmod (n : Int) = (k : Int) := ⟨(q.tmod (n : Int)).toNat, by rw [Int.toNat_of_nonneg (Int.tmod_nonneg _ hq0)]⟩
  have hkn : (k : Int) < (n : Int) := by rw [← hk]; exact Int.tmod_lt_of_pos q (by omega)
  refine ⟨k, by omega, fun w => ?_⟩
  have b1 : -9223372036854775808 ≤ r ∧ r ≤ 9223372036854775807 := by omega
  have b2 : -9223372036854775808 ≤ q ∧ q ≤ 9223372036854775807 := by omega
  have b3 : -9223372036854775808 ≤ (k : Int) ∧ (k : Int) ≤ 9223372036854775807 := by omega
  have e1 : wrap64 r = r := w64_small b1.1 b1.2
  have e2 : wrap64 (r + (n : Int)) = q := by rw [hq]; exact w64_small b2.1 b2.2
  have e3 : wrap64 (k : Int) = (k : Int) := w64_small b3.1 b3.2
  have hn0 : ¬ ((n : Int) = 0) := by omega
  have hn1 : ¬ ((n : Int) = -1) := by omega
  clear hx hx1 h0 hn hr1 hr2 hq hq0 hkn b1 b2 b3
  go_enter Try.func25, Try.ntmps25
  go_wp2
  go_ret
  exact ⟨rfl, rfl⟩
theorem Calls.sym {f : FuncId} {args : Array Value} {w : World} {v : Value} (h : Calls Try.prog f args w fun e w' => e = .returned v ∧ w = w') : Calls Try.prog f args w fun e w' => e = .returned v ∧ w' = w := h.mono fun _ _ ⟨h1, h2⟩ => ⟨h1, h2.symm⟩
theorem keepN (w : World) (k : Nat) : KO w (w.drewN k) := by have h := Below.refl w.heap.size w; exact ⟨h.os, h.tape, h.output, h.size, h.block⟩
theorem RopeBalanced_walk (w : World) (a0 : Option Addr) (n0 cap0 : Nat) (l : List Int) (h0 : Row .i32 w a0 n0 cap0 l) (hf0 : ∀ x ∈ l, (Lit.int .i32 x).wf = true) (hs0 : n0 * 4 ≤ 140737488351232)
    (a1 : Option Addr) (n1 cap1 : Nat) (h1 : Acts w a1 n1 cap1) :
    Calls Try.prog 5 #[.slice a0 n0 cap0, .slice a1 n1 cap1] w fun e w' => e = .returned (.bool true) ∧ Below w.heap.size w w' := by
  have HW := hide (works_any w)
  by_cases hbig : n0 ≤ 1000
  · have e0 : ¬ ((1000 : Int) < (n0 : Int)) := by omega
    have HNEW := hide (fun w' (hk : KO w w') => new_any a0 n0 cap0 l w' (h0.below hk) hf0 (by omega))
    have HL0 := hide h0.len
    have H1 := hide h1
    have HB := hide hbig
    have hle1 := h1.le
    have hmx1 := h1.max
    unfold maxLen at hmx1
    clear h0 hf0 hs0 h1
    go_enter Try.func5, Try.ntmps5
    go_wp2_with (go_at_call 24; refine HW.out.mono ?_; rintro e w1 ⟨rfl, hb1⟩)
    have k1 : KO w w1 := hb1
    refine (HNEW.out w1 k1).mono ?_
    rintro e w2 ⟨b, t, rfl, hr, hl, hb2⟩
    have k2 : KO w w2 := KO.on k1 hb2
    have HSZ := hide (show t.size ≤ 1700 from by unfold Tr.size; rw [hl, HL0.out]; omega)
    have HR := hide hr
    clear hr hl hb1 hb2 HNEW HW
    go_wp2_with fail
    go_loopw [5, 6] (fun s5 s6 wr => ∃ (i b : Nat) (t : Tr), s6 = .int .i64 (i : Int) ∧ s5 = .pointer (some ⟨b, 0, none⟩) ∧ i ≤ 60 ∧ t.size ≤ 1700 ∧ Hid (IsRope wr b t) ∧ Hid (KO w wr)) (fun _ s6 _ => 60 - (intOf s6).toNat)
    case atStart => exact ⟨0, b, t, rfl, rfl, by omega, HSZ.out, HR, k2⟩
    case round =>
      clear HSZ HR k2
      obtain ⟨i, b, t, rfl, rfl, hi, hsz, hr, hkr⟩ := hrel
      have hpow := Tr.pow_le hr.out.bal
      obtain ⟨z, hz⟩ : ∃ z, t.size = z := ⟨_, rfl⟩
      obtain ⟨h, hh⟩ : ∃ h, t.high = h := ⟨_, rfl⟩
      obtain ⟨d, hd⟩ : ∃ d, h / 2 = d := ⟨_, rfl⟩
      have hzh : h = 0 ↔ z = 0 := by rw [← hh, ← hz]; exact Tr.high_zero
      rw [hh, hd, hz] at hpow
      rw [hz] at hsz
      have HDP := hide (fun w' (hk : KO wr w') => Deep_rope b t w' (hr.out.below hk))
      have HLN := hide (fun w' (hk : KO wr w') => Len_rope b t w' (hr.out.below hk))
      rw [hh] at HDP
      rw [hz] at HLN
      have hd10 : d ≤ 10 := by
        rcases Nat.lt_or_ge 10 d with h3 | h3
        · have := Nat.pow_le_pow_right (show 0 < 2 by omega) (show 11 ≤ d by omega)
          omega
        · exact h3
      by_cases hin : i < n1
      · by_cases hi60 : i < 60
        · have e1 : (i : Int) < (n1 : Int) := by omega
          have e2 : (i : Int) < 60 := by omega
          have hh21 : h ≤ 21 := by omega
          obtain ⟨q, hq⟩ : ∃ q, 2 ^ d = q := ⟨_, rfl⟩
          rw [hq] at hpow
          have e3 : (q : Int) ≤ (z : Int) + 1 := by omega
          have ew : wrap64 ((2 : Int) ^ d) = (q : Int) := by
            rw [show (2 : Int) ^ d = (q : Int) from by rw [← hq]; simp]
            exact w64_small (by omega) (by omega)
          have eb : ((h : Int) == 0) = ((z : Int) == 0) := by
            rcases Nat.eq_zero_or_pos z with h3 | h3
            · rw [beq_iff_eq.2 (show (h : Int) = 0 by have := hzh.2 h3; omega), beq_iff_eq.2 (show (z : Int) = 0 by omega)]
            · rw [beq_false_of_ne (show (h : Int) ≠ 0 from fun h4 => by have := hzh.1 (by omega); omega), beq_false_of_ne (show (z : Int) ≠ 0 by omega)]
          obtain ⟨ba, oa, rfl, hba, hact⟩ := H1.out.cells (by omega)
          obtain ⟨kd, fr, tu, ta, tn, tc, zs, hA0⟩ := hact i hin
          have hA := hA0.below hkr.out hba
          have c0 := hA.c0
          have c1 := hA.c1
          have c2 := hA.c2
          have c3 := hA.c3
          obtain ⟨W5, hW5⟩ : ∃ W5, wr.alloc (.cells #[.int .i64 kd, .int .i64 fr, .int .i64 tu, .slice ta tn tc] 30) = W5 := ⟨_, rfl⟩
          have hk5 : KO wr W5 := by rw [← hW5]; exact KO.alloc (KO.refl _) _
          have hx5 : wr.heap.size < W5.heap.size := by rw [← hW5]; simp
          have hx : ∀ j, W5.cell? ⟨wr.heap.size, j, none⟩ = (#[.int .i64 kd, .int .i64 fr, .int .i64 tu, .slice ta tn tc] : Array Value)[j]? := fun j => by rw [← hW5, World.cell?_alloc_mark]
          have x0 : W5.cell? ⟨wr.heap.size, 0, none⟩ = some (.int .i64 kd) := hx 0
          have x1 : W5.cell? ⟨wr.heap.size, 1, none⟩ = some (.int .i64 fr) := hx 1
          have x2 : W5.cell? ⟨wr.heap.size, 2, none⟩ = some (.int .i64 tu) := hx 2
          have x3 : W5.cell? ⟨wr.heap.size, 3, none⟩ = some (.slice ta tn tc) := hx 3
          have HA := hide hA
          have HLN5 := hide (HLN.out W5 hk5)
          have HK5 := hide hk5
          have HHH := hide hh
          have HZZ := hide hz
          have HX5 := hide hx5
          clear hpow hq hzh hact hA0 hA hx hk5 hh hz hba hx5
          by_cases htn : tn ≤ 200
          · have e4 : ¬ ((200 : Int) < (tn : Int)) := by omega
            by_cases hz15 : z ≤ 1500
            · have e5 : ¬ ((1500 : Int) < (z : Int)) := by omega
              go_wp2_with (first
                | (go_at_call 22; refine (HDP.out _ (KO.refl _)).mono ?_; rintro e w' ⟨rfl, rfl⟩)
                | (go_at_call 20; first | (refine (HLN.out _ (KO.refl _)).mono ?_; rintro e w' ⟨rfl, rfl⟩) | (refine HLN5.out.mono ?_; rintro e w' ⟨rfl, rfl⟩)))
              obtain ⟨k, hk, hAM⟩ := among_all fr (z + 1) HA.out.f1 (by omega) (by omega)
              obtain ⟨m4, hm4, hAK⟩ := among_all kd 4 HA.out.f0 (by omega) (by omega)
              obtain ⟨k3, hk3, hAT⟩ := among_all tu (z + 1) HA.out.f2 (by omega) (by omega)
              rw [show ((z + 1 : Nat) : Int) = (z : Int) + 1 from by omega] at hAM hAT
              have HAM := hide hAM
              have HAK := hide hAK
              have HAT := hide hAT
              clear hAM hAK hAT
              go_quiet (first
                | (go_at_call 20; exact Calls.quiet_of_same (Calls.sym (HLN.out _ (KO.on HK5.out (keepN _ _)))))
                | (go_at_call 25; exact Calls.quiet_of_same (Calls.sym (HAM.out _))))
              rename_i nq
              obtain ⟨W6, hW6⟩ : ∃ W6, W5.drewN nq = W6 := ⟨_, rfl⟩
              rw [hW6]
              have k56 : KO W5 W6 := by rw [← hW6]; exact keepN _ _
              have y0 : W6.cell? ⟨wr.heap.size, 0, none⟩ = some (.int .i64 kd) := (Below.cell k56 (by exact HX5.out)).trans x0
              have y2 : W6.cell? ⟨wr.heap.size, 2, none⟩ = some (.int .i64 tu) := (Below.cell k56 (by exact HX5.out)).trans x2
              have y3 : W6.cell? ⟨wr.heap.size, 3, none⟩ = some (.slice ta tn tc) := (Below.cell k56 (by exact HX5.out)).trans x3
              have HK6 := hide (KO.on HK5.out k56)
              have HY2 := hide y2
              have HRR := hide (hr.out.below HK6.out)
              have HX6 := hide (Nat.lt_of_lt_of_le HX5.out (Below.size k56))
              clear x0 x1 x2 x3 hW6 k56 hW5 c0 c1 c2 c3 ew eb e3
              have HZ := HZZ
              have HKW := hide (KO.on hkr.out HK6.out)
              rcases (show m4 = 0 ∨ m4 = 1 ∨ m4 = 2 ∨ m4 = 3 by omega) with rfl | rfl | rfl | rfl
              · have HIN := hide (Insert_ok b t (k : Int) ta tn tc zs W6 HRR.out (HA.out.row.below HK6.out) HA.out.wf (by omega) (by have := HZ.out; omega) (by have := HZ.out; omega))
                go_wp2_with (go_at_call 25; refine (HAK.out _).mono ?_; rintro e w' ⟨rfl, rfl⟩)
                refine HIN.out.mono ?_
                rintro e w7 ⟨b7, t7, rfl, hr7, hl7, hb7⟩
                have hs7 : t7.size ≤ 1700 := by
                  have h1 := congrArg List.length hl7
                  have h2 := HA.out.row.len
                  have h3 := HZ.out
                  unfold Tr.size at h3 ⊢
                  rw [List.length_append, List.length_append, List.length_take, List.length_drop] at h1
                  omega
                have HR7 := hide hr7
                have HK7 := hide (KO.on HKW.out hb7)
                clear hr7 hl7 hb7 y0 y2 y3
                go_wp2_with fail
                go_roundw
                case rel => exact ⟨i + 1, b7, t7, by go_num, rfl, by omega, hs7, HR7, HK7⟩
                case measure => simp [intOf]; omega
              · obtain ⟨lo, hlo⟩ : ∃ lo : Nat, (if (k3 : Int) < (k : Int) then (k3 : Int) else (k : Int)) = (lo : Int) := by
                  split
                  · exact ⟨k3, rfl⟩
                  · exact ⟨k, rfl⟩
                obtain ⟨hi2, hhi⟩ : ∃ hi2 : Nat, (if (k : Int) < (k3 : Int) then (k3 : Int) else (k : Int)) = (hi2 : Int) := by
                  split
                  · exact ⟨k3, rfl⟩
                  · exact ⟨k, rfl⟩
                have hlh : lo ≤ hi2 ∧ hi2 ≤ z := by split at hlo <;> split at hhi <;> omega
                have hmn : ∀ (w' : World) (ts : Array TypeId) (t : TypeId), (Builtin.min_ ts t #[.int .i64 (k : Int), .int .i64 (k3 : Int)]).run Try.prog w' = .ok (.int .i64 (lo : Int)) w' := fun w' ts t => by rw [run_min_int2]; exact congrArg (fun v => Result.ok (Value.int .i64 v) w') hlo
                have hmx : ∀ (w' : World) (ts : Array TypeId) (t : TypeId), (Builtin.max_ ts t #[.int .i64 (k : Int), .int .i64 (k3 : Int)]).run Try.prog w' = .ok (.int .i64 (hi2 : Int)) w' := fun w' ts t => by rw [run_max_int2]; exact congrArg (fun v => Result.ok (Value.int .i64 v) w') hhi
                have HDEL := hide (fun w' (hk : KO W6 w') => Delete_ok b t (lo : Int) (hi2 : Int) w' (HRR.out.below hk) (by omega) (by omega) (by have := HZ.out; omega) (by have := HZ.out; omega))
                have HLN6 := hide (fun w' (hk : KO W6 w') => HLN.out w' (KO.on HK6.out hk))
                have hx2 : ∀ w', KO W6 w' → w'.cell? ⟨wr.heap.size, 2, none⟩ = some (.int .i64 tu) := fun w' hk => (Below.cell hk (by exact HX6.out)).trans y2
                have ew1 : IntKind.i64.wrap ((z : Int) + 1) = (z : Int) + 1 := by rw [IntKind.wrap_i64]; omega
                have hK : KO W6 W6 := KO.refl _
                have hKd : KO W6 W6.drew := KO.drew hK
                go_wp2_with (go_at_call 25; refine (HAK.out _).mono ?_; rintro e w' ⟨rfl, rfl⟩)
                clear y0 y2 y3
                refine wp_region_noPanic ?_
                go_region_held (fun w' => KO W6 w') (first | assumption)
                  (first
                    | (go_at_call 20; refine (HLN6.out _ (by assumption)).mono ?_; rintro e w' ⟨rfl, rfl⟩)
                    | (go_at_call 25; refine (HAT.out _).mono ?_; rintro e w' ⟨rfl, rfl⟩)
                    | (go_at_call 16; refine (HDEL.out _ (by assumption)).mono ?_; rintro e w7 ⟨b7, t7, rfl, hr7, hl7, hb7⟩; have hk7 : KO W6 w7 := Below.trans (by assumption) (hb7.mono (by have : KO W6 _ := (by assumption); exact this.size))))
                all_goals
                  refine NoPanic.normal ?_
                  have hs7 : t7.size ≤ 1700 := by
                    have h1 := congrArg List.length hl7
                    have h3 := HZ.out
                    unfold Tr.size at h3 ⊢
                    rw [List.length_append, List.length_take, List.length_drop] at h1
                    omega
                  have HR7 := hide hr7
                  have HK7 := hide (KO.on HKW.out hk7)
                  clear hr7 hl7 hb7 hk7 hK hKd hx2 hmn hmx hlo hhi
                  go_wp2_with fail
                  go_roundw
                  case rel => exact ⟨i + 1, b7, t7, by go_num, rfl, by omega, hs7, HR7, HK7⟩
                  case measure => simp [intOf]; omega
              · have HNW := hide (new_any ta tn tc zs W6 (HA.out.row.below HK6.out) HA.out.wf (by omega))
                go_wp2_with (go_at_call 25; refine (HAK.out _).mono ?_; rintro e w' ⟨rfl, rfl⟩)
                refine HNW.out.mono ?_
                rintro e w8 ⟨b8, t8, rfl, hr8, hl8, hb8⟩
                have hs8 : t8.size ≤ 200 := by
                  have h2 := HA.out.row.len
                  unfold Tr.size; rw [hl8]; omega
                have HCC := hide (Concat_ok b b8 t t8 w8 (HRR.out.below hb8) hr8 (by have := HZ.out; omega))
                have HK8 := hide (KO.on HKW.out hb8)
                clear hr8 hl8 hb8 y0 y2 y3
                go_wp2_with fail
                refine HCC.out.mono ?_
                rintro e w7 ⟨b7, t7, rfl, hr7, hl7, hb7⟩
                have hs7 : t7.size ≤ 1700 := by
                  have h1 := congrArg List.length hl7
                  have h3 := HZ.out
                  unfold Tr.size at h3 hs8 ⊢
                  rw [List.length_append] at h1
                  omega
                have HR7 := hide hr7
                have HK7 := hide (KO.on HK8.out hb7)
                clear hr7 hl7 hb7
                go_wp2_with fail
                go_roundw
                case rel => exact ⟨i + 1, b7, t7, by go_num, rfl, by omega, hs7, HR7, HK7⟩
                case measure => simp [intOf]; omega
              · have HSP := hide (Split_ok b t (k : Int) W6 HRR.out (by omega) (by have := HZ.out; omega) (by have := HZ.out; omega))
                go_wp2_with (go_at_call 25; refine (HAK.out _).mono ?_; rintro e w' ⟨rfl, rfl⟩)
                refine HSP.out.mono ?_
                rintro e w8 ⟨b8, b9, t8, t9, rfl, hr8, hr9, hl8, hl9, hb8⟩
                have hs8 : t9.size + t8.size ≤ 1700 := by
                  have h1 := congrArg List.length hl8
                  have h2 := congrArg List.length hl9
                  have h3 := HZ.out
                  unfold Tr.size at h3 ⊢
                  rw [List.length_take] at h1
                  rw [List.length_drop] at h2
                  omega
                have HCC := hide (Concat_ok b9 b8 t9 t8 w8 hr9 hr8 (by omega))
                have HK8 := hide (KO.on HKW.out hb8)
                clear hr8 hl8 hr9 hl9 hb8 y0 y2 y3
                go_wp2_with fail
                refine HCC.out.mono ?_
                rintro e w7 ⟨b7, t7, rfl, hr7, hl7, hb7⟩
                have hs7 : t7.size ≤ 1700 := by
                  have h1 := congrArg List.length hl7
                  unfold Tr.size at hs8 ⊢
                  rw [List.length_append] at h1
                  omega
                have HR7 := hide hr7
                have HK7 := hide (KO.on HK8.out hb7)
                clear hr7 hl7 hb7
                go_wp2_with fail
                go_roundw
                case rel => exact ⟨i + 1, b7, t7, by go_num, rfl, by omega, hs7, HR7, HK7⟩
                case measure => simp [intOf]; omega
            · have e5 : (1500 : Int) < (z : Int) := by omega
              go_wp2_with (first
                | (go_at_call 22; first | (refine (HDP.out _ (KO.refl _)).mono ?_; rintro e w' ⟨rfl, rfl⟩) | (refine (HDP.out _ HK5.out).mono ?_; rintro e w' ⟨rfl, rfl⟩))
                | (go_at_call 20; first | (refine (HLN.out _ (KO.refl _)).mono ?_; rintro e w' ⟨rfl, rfl⟩) | (refine HLN5.out.mono ?_; rintro e w' ⟨rfl, rfl⟩)))
              go_ret
              exact ⟨ret_bool (by simp), KO.on hkr.out HK5.out⟩
          · have e4 : (200 : Int) < (tn : Int) := by omega
            go_wp2_with (first
              | (go_at_call 22; first | (refine (HDP.out _ (KO.refl _)).mono ?_; rintro e w' ⟨rfl, rfl⟩) | (refine (HDP.out _ HK5.out).mono ?_; rintro e w' ⟨rfl, rfl⟩))
              | (go_at_call 20; first | (refine (HLN.out _ (KO.refl _)).mono ?_; rintro e w' ⟨rfl, rfl⟩) | (refine HLN5.out.mono ?_; rintro e w' ⟨rfl, rfl⟩)))
            go_ret
            exact ⟨ret_bool (by simp), KO.on hkr.out HK5.out⟩
        · have e1 : (i : Int) < (n1 : Int) := by omega
          have e2 : ¬ ((i : Int) < 60) := by omega
          have hh21 : h ≤ 21 := by omega
          obtain ⟨q, hq⟩ : ∃ q, 2 ^ d = q := ⟨_, rfl⟩
          rw [hq] at hpow
          have e3 : (q : Int) ≤ (z : Int) + 1 := by omega
          have ew : wrap64 ((2 : Int) ^ d) = (q : Int) := by
            rw [show (2 : Int) ^ d = (q : Int) from by rw [← hq]; simp]
            exact w64_small (by omega) (by omega)
          clear hpow hq hzh hh hz
          go_wp2_with (first
            | (go_at_call 22; refine (HDP.out _ (KO.refl _)).mono ?_; rintro e w' ⟨rfl, rfl⟩)
            | (go_at_call 20; refine (HLN.out _ (KO.refl _)).mono ?_; rintro e w' ⟨rfl, rfl⟩))
          go_ret
          exact ⟨ret_bool (by simp), hkr.out⟩
      · have e1 : ¬ ((i : Int) < (n1 : Int)) := by omega
        have hh21 : h ≤ 21 := by omega
        obtain ⟨q, hq⟩ : ∃ q, 2 ^ d = q := ⟨_, rfl⟩
        rw [hq] at hpow
        have e3 : (q : Int) ≤ (z : Int) + 1 := by omega
        have ew : wrap64 ((2 : Int) ^ d) = (q : Int) := by
          rw [show (2 : Int) ^ d = (q : Int) from by rw [← hq]; simp]
          exact w64_small (by omega) (by omega)
        clear hpow hq hzh hh hz
        go_wp2_with (first
          | (go_at_call 22; refine (HDP.out _ (KO.refl _)).mono ?_; rintro e w' ⟨rfl, rfl⟩)
          | (go_at_call 20; refine (HLN.out _ (KO.refl _)).mono ?_; rintro e w' ⟨rfl, rfl⟩))
        go_ret
        exact ⟨ret_bool (by simp), hkr.out⟩
  · have e0 : (1000 : Int) < (n0 : Int) := by omega
    clear h0 hf0 hs0 hbig
    go_enter Try.func5, Try.ntmps5
    go_wp2_with (go_at_call 24; refine HW.out.mono ?_; rintro e w1 ⟨rfl, hb1⟩)
    go_ret
    exact ⟨rfl, hb1⟩
end Go.Proofs.Yteiljaecaahonaa
