/- IsolateJoins: two stretches match as they do by themselves. -/
import Derived.Test.YtfdfoojagngnnaaHides
namespace Go.Proofs.Ytfdfoojagngnnaa
open Go.RowKit
set_option linter.unusedVariables false
set_option maxHeartbeats 2000000
set_option maxRecDepth 100000
theorem joins_base {a b : List Int} (h : Iso.stk a a.length = []) : (Iso.bso 0 (a ++ b) = Iso.bso 0 a) ∨ (Iso.bso 0 a = 0 ∧ Iso.bso 0 (a ++ b) = Iso.bso 0 b) := by
  have h1 := Iso.stk_fold a a.length (Nat.le_refl _)
  rw [h, List.take_length, List.length_nil] at h1
  have h2 := Iso.bso_joins b a 0
  rw [← h1] at h2
  exact h2
theorem mt_bounds (c : List Int) (j : Nat) (h : j < c.length) : -1 ≤ Iso.mt c j ∧ Iso.mt c j ≤ (c.length : Int) := by
  have h1 := Iso.partner_le c j h
  have h2 := Iso.hd_range c j
  unfold Iso.mt
  split
  · omega
  · split <;> omega
theorem drop_both {a b : List Int} {i n : Nat} (ha : a.length = i) (hb : (a ++ b).length = n) : ((a ++ b).take n).drop i = b := by
  rw [← hb, List.take_length, ← ha, List.drop_left]
theorem IsolateJoins_walk (w : World) (a0 : Option Addr) (n0 cap0 : Nat) (a : List Int) (h0 : Row .i64 w a0 n0 cap0 a) (hf0 : ∀ x ∈ a, (Lit.int .i64 x).wf = true) (hs0 : n0 ≤ 1048576)
    (a1 : Option Addr) (n1 cap1 : Nat) (b : List Int) (h1 : Row .i64 w a1 n1 cap1 b) (hf1 : ∀ x ∈ b, (Lit.int .i64 x).wf = true) (hs1 : n1 ≤ 1048576) :
    Calls Try.prog 7 #[.slice a0 n0 cap0, .slice a1 n1 cap1] w fun e w' => e = .returned (.bool true) ∧ Below w.heap.size w w' := by
  obtain ⟨ii, hii, hy0, hy1, hy2⟩ := info_parts infoInt
  have HII : Hid (Try.prog.info? 3 = some ii) := hii
  have HY0 := hide hy0
  have HY1 := hide hy1
  have HY2 := hide hy2
  have HW := hide (works_any w)
  have H0 := hide h0
  have H1 := hide h1
  have HL0 := hide h0.len
  have HL1 := hide h1.len
  clear h0 hf0 h1 hf1 hii hy0 hy1 hy2
  go_enter Try.func7, Try.ntmps7
  go_wp2_with fail
  refine HW.out.mono ?_
  rintro e w1 ⟨rfl, hb1⟩
  have k1 : KO w w1 := hb1
  have HM := hide (match_any a0 n0 cap0 a w1 (H0.out.below hb1) (by omega))
  clear HW hb1
  go_wp2_with fail
  refine HM.out.mono ?_
  rintro e w2 ⟨rfl, ho2, hb2⟩
  have k12 : KO w1 w2 := hb2
  have HO2 := hide ho2
  have HM2 := hide (match_any a1 n1 cap1 b w2 (H1.out.below (KO.on k1 hb2)) (by omega))
  clear HM ho2 hb2
  go_wp2_with fail
  refine HM2.out.mono ?_
  rintro e w3 ⟨rfl, ho3, hb3⟩
  have k23 : KO w2 w3 := hb3
  have k3 : KO w w3 := KO.on k1 (KO.on k12 k23)
  have HK3 := hide k3
  have HXC := hide (fun (w' : World) (hk : KO w3 w') (j : Nat) (hj : j < n0) => ownAt HO2.out (KO.on k23 hk) j hj)
  have HYC := hide (fun (w' : World) (hk : KO w3 w') (j : Nat) (hj : j < n1) => ownAt ho3 hk j hj)
  have HXA := hide (fun (j : Nat) (hj : j < n0) => Iso.MT_at a j (by rw [HL0.out]; exact hj))
  have HYA := hide (fun (j : Nat) (hj : j < n1) => Iso.MT_at b j (by rw [HL1.out]; exact hj))
  have HAC := hide (fun (w' : World) (hk : KO w3 w') (b2 off : Nat) (hr : Row .i64 w (some ⟨b2, off, none⟩) n0 cap0 a) (j : Nat) (hj : j < n0) => rowAt hr (KO.on k3 hk) j hj)
  have HBC := hide (fun (w' : World) (hk : KO w3 w') (b2 off : Nat) (hr : Row .i64 w (some ⟨b2, off, none⟩) n1 cap1 b) (j : Nat) (hj : j < n1) => rowAt hr (KO.on k3 hk) j hj)
  clear HM2 ho3 hb3 k1 k12 k23 HO2 k3
  generalize w1.heap.size = G1 at *
  generalize w2.heap.size = G2 at *
  go_wp2_with fail
  go_loopw [29] (fun v wr => ∃ i : Nat, i ≤ n0 ∧ v = .int .i64 (i : Int) ∧ Hid (∀ j, j < i → Iso.st (a.getD j 0) = true → Iso.partner a j < n0) ∧ w3 = wr) (fun v _ => n0 - (intOf v).toNat)
  case atStart => exact ⟨0, Nat.zero_le _, rfl, hide (fun j hj => by omega), rfl⟩
  case round =>
    obtain ⟨i, hi, rfl, hA, rfl⟩ := hrel
    by_cases hlt : i < n0
    · obtain ⟨b2, off, rfl, hbl, hc⟩ := H0.out.cells (by omega)
      have hil : i < a.length := by rw [HL0.out]; exact hlt
      have cc := HAC.out w3 (KO.refl _) b2 off H0.out i hlt
      have cx := HXC.out w3 (KO.refl _) i hlt
      rw [HXA.out i hlt] at cx
      have hin : (i : Int) < (n0 : Int) := by omega
      have HT := hide (starts_any (a.getD i 0) w3)
      have HNX := hide (fun (h : Iso.st (a.getD i 0) = true → Iso.partner a i < n0) => (show ∀ j, j < i + 1 → Iso.st (a.getD j 0) = true → Iso.partner a j < n0 from fun j hj => by
        rcases Nat.lt_or_ge j i with h1 | h1
        · exact hA.out j h1
        · rw [show j = i from by omega]; exact h))
      have MEAS := hide (meas_n0 n0 i hlt)
      clear hc
      cases hs : Iso.st (a.getD i 0) with
      | true =>
        rw [hs] at HT
        have hmt : Iso.mt a i = (Iso.partner a i : Int) := by unfold Iso.mt; rw [if_pos hs]
        have hp2 := Iso.partner_le a i hil
        rw [HL0.out] at hp2
        rw [hmt] at cx
        by_cases hp : Iso.partner a i = n0
        · rw [hp] at cx
          have HE := hide (show Below w.heap.size w w3 from HK3.out)
          generalize a.getD i 0 = x at *
          clear hs hmt hil HNX hp2 hp
          go_wp2_with (go_at_call 17; refine HT.out.mono ?_; rintro e w' ⟨rfl, rfl⟩)
          go_ret
          exact ⟨rfl, HE.out⟩
        · have HA2 := hide (HNX.out (fun _ => by omega))
          generalize Iso.partner a i = p at *
          have hpf : ((p : Int) == (n0 : Int)) = false := beq_false_of_ne (by omega)
          clear HNX hp
          generalize a.getD i 0 = x at *
          clear hs hmt hil
          go_wp2_with (go_at_call 17; refine HT.out.mono ?_; rintro e w' ⟨rfl, rfl⟩)
          exact ⟨⟨i + 1, by omega, by go_num, HA2, trivial⟩, MEAS.out⟩
      | false =>
        rw [hs] at HT
        have HA2 := hide (HNX.out (fun h => by rw [hs] at h; cases h))
        clear HNX
        generalize a.getD i 0 = x at *
        clear hs hil
        go_wp2_with (go_at_call 17; refine HT.out.mono ?_; rintro e w' ⟨rfl, rfl⟩)
        exact ⟨⟨i + 1, by omega, by go_num, HA2, trivial⟩, MEAS.out⟩
    · obtain rfl : i = n0 := by omega
      have hne : ¬ ((i : Int) < (i : Int)) := by omega
      have HAA := hide (show ∀ j, j < a.length → Iso.st (a.getD j 0) = true → Iso.partner a j < a.length from by rw [HL0.out]; exact hA.out)
      clear hA hlt
      go_wp2_with fail
      go_loopw [48] (fun v wr => ∃ k : Nat, k ≤ n1 ∧ v = .int .i64 (k : Int) ∧ Hid (∀ j, j < k → b.getD j 0 = 23 → 0 ≤ Iso.mt b j) ∧ w3 = wr) (fun v _ => n1 - (intOf v).toNat)
      case atStart => exact ⟨0, Nat.zero_le _, rfl, hide (fun j hj => by omega), rfl⟩
      case round =>
        obtain ⟨k, hk, rfl, hB, rfl⟩ := hrel
        by_cases hlt : k < n1
        · obtain ⟨b2, off, rfl, hbl, hc⟩ := H1.out.cells (by omega)
          have cc := HBC.out w3 (KO.refl _) b2 off H1.out k hlt
          have cy := HYC.out w3 (KO.refl _) k hlt
          rw [HYA.out k hlt] at cy
          have hin : (k : Int) < (n1 : Int) := by omega
          have HNX := hide (fun (h : b.getD k 0 = 23 → 0 ≤ Iso.mt b k) => (show ∀ j, j < k + 1 → b.getD j 0 = 23 → 0 ≤ Iso.mt b j from fun j hj => by
            rcases Nat.lt_or_ge j k with h1 | h1
            · exact hB.out j h1
            · rw [show j = k from by omega]; exact h))
          have MEAS := hide (meas_n0 n1 k hlt)
          generalize Iso.mt b k = m at *
          generalize b.getD k 0 = x at *
          clear hc
          by_cases hx : x = 23
          · by_cases hm : m < 0
            · have HE := hide (show Below w.heap.size w w3 from HK3.out)
              subst hx
              clear HNX
              go_wp2_with fail
              go_ret
              exact ⟨rfl, HE.out⟩
            · have HB2 := hide (HNX.out (fun _ => by omega))
              subst hx
              clear HNX
              go_wp2_with fail
              exact ⟨⟨k + 1, by omega, by go_num, HB2, trivial⟩, MEAS.out⟩
          · have HB2 := hide (HNX.out (fun h => absurd h hx))
            clear HNX
            go_wp2_with fail
            exact ⟨⟨k + 1, by omega, by go_num, HB2, trivial⟩, MEAS.out⟩
        · obtain rfl : k = n1 := by omega
          have hne2 : ¬ ((k : Int) < (k : Int)) := by omega
          have HBB := hide hB.out
          have HSH := hide (Iso.stk_shut HAA.out)
          have HKA := hide (show KO w3 (w3.alloc (.cells #[] 3)) from KO.alloc (KO.refl _) _)
          clear hB hlt
          go_wp2_with (first
            | (at_builtin; refine wpList_append_row _ rfl (.tmp 63) (.tmp 64) 22 rfl w3.heap.size 3 ii (.int .i64 0) 8 Try.underlying22 HII.out HY0.out HY1.out HY2.out rfl _ 0 [] rfl (owns_empty w3 3 w3.heap.size rfl) .i64 a0 i cap0 a rfl (H0.out.below (KO.on HK3.out HKA.out)) (by omega) (by omega) (by simp) ?_; intro v4 w4 hown4 hb4; rw [List.nil_append, Nat.zero_add] at hown4; have k4 : KO w3 w4 := Below.trans HKA.out hb4)
            | (at_builtin; refine wpList_append_row _ rfl (.tmp 65) (.tmp 66) 22 rfl w3.heap.size 3 ii (.int .i64 0) 8 Try.underlying22 HII.out HY0.out HY1.out HY2.out rfl _ i _ rfl hown4 .i64 a1 k cap1 b rfl (H1.out.below (KO.on HK3.out k4)) (by omega) (by omega) (Below.size k4) ?_; intro v5 w5 hown5 hb5; rw [← List.map_append] at hown5; have k5 : KO w3 w5 := Below.trans k4 hb5; obtain ⟨a5, c5, rfl, hr5⟩ := row_of_owns hown5))
          have HR5 := hide hr5
          have HM := hide (match_any a5 (i + k) c5 (a ++ b) w5 HR5.out (by omega))
          clear hown4 hb4 hown5 hb5 hr5 k4
          go_wp2_with fail
          refine HM.out.mono ?_
          rintro e w6 ⟨rfl, ho6, hb6⟩
          have k56 : KO w5 w6 := hb6
          have k6 : KO w3 w6 := KO.on k5 k56
          have HLB := hide (show (a ++ b).length = i + k from by rw [List.length_append, HL0.out, HL1.out])
          have HZC := hide (fun (w' : World) (hk : KO w6 w') (j : Nat) (hj : j < i + k) => (ownAt ho6 hk j hj).trans (by rw [Iso.MT_at (a ++ b) j (by rw [HLB.out]; exact hj)]))
          have HZL := hide (fun (j : Nat) (hj : j < i) => Iso.mt_left (b := b) HAA.out j (by rw [HL0.out]; exact hj))
          have HZR := hide (fun (j : Nat) (hj : j < k) => Iso.mt_right (a := a) (b := b) HSH.out j (HBB.out j hj))
          have HJB := hide (joins_base (b := b) HSH.out)
          have HK6 := hide k6
          have enn : ((i + k : Nat) : Int) = (i : Int) + (k : Int) := by omega
          clear HM ho6 hb6 k5 k6 HKA
          generalize w5.heap.size = G3 at *
          go_wp2_with fail
          go_loopw [77] (fun v wr => ∃ p : Nat, p ≤ i ∧ v = .int .i64 (p : Int) ∧ KO w6 wr) (fun v _ => i - (intOf v).toNat)
          case atStart => exact ⟨0, Nat.zero_le _, rfl, KO.refl _⟩
          case round =>
            obtain ⟨p, hp, rfl, hkp⟩ := hrel
            by_cases hlt : p < i
            · have cz := HZC.out wr hkp p (by omega)
              have cx := HXC.out wr (KO.on HK6.out hkp) p hlt
              rw [HXA.out p hlt] at cx
              rw [HZL.out p hlt] at cz
              generalize Iso.mt a p = m at *
              have hin : (p : Int) < (i : Int) := by omega
              have hin2 : (p : Int) < (i : Int) + (k : Int) := by omega
              go_wp2_with fail
              go_quiet (fail)
              go_wp2_with fail
              exact ⟨⟨p + 1, by omega, by go_num, KO.on hkp (below_drewN _ _)⟩, meas_n0 i p hlt⟩
            · have hnp : ¬ ((p : Int) < (i : Int)) := by omega
              clear hlt
              go_wp2_with fail
              have HKP := hide hkp
              go_loopw [92] (fun v wr => ∃ q : Nat, q ≤ k ∧ v = .int .i64 (q : Int) ∧ KO w6 wr) (fun v _ => k - (intOf v).toNat)
              case atStart => exact ⟨0, Nat.zero_le _, rfl, HKP.out⟩
              case round =>
                obtain ⟨q, hq, rfl, hkq⟩ := hrel
                by_cases hlt : q < k
                · have cz := HZC.out wr hkq (i + q) (by omega)
                  have cy := HYC.out wr (KO.on HK6.out hkq) q hlt
                  rw [HYA.out q hlt] at cy
                  have hzr := HZR.out q hlt
                  rw [HL0.out] at hzr
                  rw [hzr] at cz
                  have hmb := mt_bounds b q (by rw [HL1.out]; exact hlt)
                  rw [HL1.out] at hmb
                  obtain ⟨hm1, hm2⟩ := hmb
                  generalize Iso.mt b q = m at *
                  have hin : (q : Int) < (k : Int) := by omega
                  have hin2 : (i : Int) + (q : Int) < (i : Int) + (k : Int) := by omega
                  have ew : IntKind.i64.wrap ((i : Int) + (q : Int)) = (i : Int) + (q : Int) := by rw [IntKind.wrap_i64]; omega
                  have ew2 : IntKind.i64.wrap ((i : Int) + m) = (i : Int) + m := by rw [IntKind.wrap_i64]; omega
                  have htn : ((i : Int) + (q : Int)).toNat = i + q := by omega
                  clear hzr
                  go_wp2_with fail
                  go_quiet (fail)
                  go_wp2_with fail
                  exact ⟨⟨q + 1, by omega, by go_num, KO.on hkq (below_drewN _ _)⟩, meas_n0 k q hlt⟩
                · have hnq : ¬ ((q : Int) < (k : Int)) := by omega
                  clear hlt
                  have kw : KO w3 wr := KO.on HK6.out hkq
                  have k0 : KO w wr := KO.on HK3.out kw
                  have B1 := base_ok a0 i cap0 a 0 i wr (H0.out.below k0) (by omega) (Nat.zero_le _) (Nat.le_refl _)
                  have B2 := base_ok a5 (i + k) c5 (a ++ b) 0 (i + k) wr (HR5.out.below (KO.on k56 hkq)) (by omega) (Nat.zero_le _) (Nat.le_refl _)
                  have B3 := base_ok a5 (i + k) c5 (a ++ b) i (i + k) wr (HR5.out.below (KO.on k56 hkq)) (by omega) (by omega) (Nat.le_refl _)
                  rw [take_all HL0.out] at B1
                  rw [take_all HLB.out] at B2
                  rw [drop_both HL0.out HLB.out] at B3
                  rw [enn] at B2 B3
                  have hJ := HJB.out
                  have hR1 := Iso.bso_two a 0
                  have hR3 := Iso.bso_two b 0
                  generalize Iso.bso 0 (a ++ b) = R2 at *
                  generalize Iso.bso 0 a = R1 at *
                  generalize Iso.bso 0 b = R3 at *
                  have HB1 := hide B1
                  have HB2 := hide B2
                  have HB3 := hide B3
                  have HE := hide (show Below w.heap.size w wr from k0)
                  clear B1 B2 B3 k0 kw
                  have hall : (R1 = 0 ∧ R2 = 0) ∨ (R1 = 1 ∧ R2 = 1) ∨ (R1 = 0 ∧ R2 = 1 ∧ R3 = 1) := by omega
                  clear hJ hR1 hR3
                  rcases hall with ⟨rfl, rfl⟩ | ⟨rfl, rfl⟩ | ⟨rfl, rfl, rfl⟩
                  all_goals
                    go_wp2_with fail
                    refine HB1.out.mono ?_
                    rintro e w' ⟨rfl, rfl⟩
                    go_wp2_with fail
                    refine HB2.out.mono ?_
                    rintro e w' ⟨rfl, rfl⟩
                    go_wp2_with fail
                    refine HB3.out.mono ?_
                    rintro e w' ⟨rfl, rfl⟩
                    go_wp2_with fail
                    go_ret
                    exact ⟨ret_bool (by simp), HE.out⟩
end Go.Proofs.Ytfdfoojagngnnaa
