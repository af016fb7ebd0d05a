/- IsolateShut: behind as many PDIs as there are initiators without one, each initiator has its PDI. -/
import Derived.Test.YtfdfoojagngnnaaJoins6
import Derived.Deep.RegionHeld3
namespace Go.Proofs.Ytfdfoojagngnnaa
open Go.RowKit
set_option linter.unusedVariables false
set_option maxHeartbeats 2000000
set_option maxRecDepth 100000
/-- How many initiators below k have no PDI. -/
def unm (c : List Int) : Nat → Nat := Iso.cnt fun j => Iso.st (c.getD j 0) && decide (c.length ≤ Iso.partner c j)
theorem unm_end (c : List Int) : unm c c.length = (Iso.stk c c.length).length := by
  rw [← Iso.cnt_sorted c.length (Iso.stk c c.length) (Iso.stk_sorted c _) (fun i hi => (Iso.stk_lt c _ i hi).1)]
  apply Iso.cnt_congr
  intro j hj
  have h := Iso.mem_stk c j c.length (Nat.le_refl _)
  by_cases hm : j ∈ Iso.stk c c.length
  · obtain ⟨h1, _, h2⟩ := h.1 hm
    rw [decide_eq_true hm, h1, decide_eq_true h2]; rfl
  · rw [decide_eq_false hm]
    cases hs : Iso.st (c.getD j 0) with
    | false => rfl
    | true =>
      have : ¬ c.length ≤ Iso.partner c j := fun h2 => hm (h.2 ⟨hs, hj, h2⟩)
      rw [decide_eq_false this]; rfl
theorem unm_le (c : List Int) (k : Nat) : unm c k ≤ k := Iso.cnt_le _ k
theorem rep_snoc (u : Nat) : List.replicate (u + 1) (23 : Int) = List.replicate u 23 ++ [23] := by
  rw [List.replicate_succ', ]
/-- Behind the PDIs none waits. -/
theorem shut_all {c : List Int} {u : Nat} (hu : u = (Iso.stk c c.length).length) : Iso.stk (c ++ List.replicate u 23) (c.length + u) = [] := by
  rw [Iso.stk_pdis c u u (Nat.le_refl _), hu, List.drop_length]
theorem shut_partner {c : List Int} {u i : Nat} (hu : u = (Iso.stk c c.length).length) (hi : i < c.length) (hs : Iso.st (c.getD i 0) = true) :
    Iso.mt (c ++ List.replicate u 23) i < ((c.length + u : Nat) : Int) ∧ (Iso.mt c i < (c.length : Int) → Iso.mt (c ++ List.replicate u 23) i = Iso.mt c i) := by
  have hs2 : Iso.st ((c ++ List.replicate u 23).getD i 0) = true := by rw [getD_left c _ i hi]; exact hs
  have e1 : Iso.mt (c ++ List.replicate u 23) i = (Iso.partner (c ++ List.replicate u 23) i : Int) := by unfold Iso.mt; rw [if_pos hs2]
  have e2 : Iso.mt c i = (Iso.partner c i : Int) := by unfold Iso.mt; rw [if_pos hs]
  have hlen : (c ++ List.replicate u (23 : Int)).length = c.length + u := by simp
  rw [e1, e2]
  constructor
  · have h1 : ¬ i ∈ Iso.stk (c ++ List.replicate u 23) (c.length + u) := by rw [shut_all hu]; simp
    rw [Iso.mem_stk _ i (c.length + u) (by rw [hlen]; exact Nat.le_refl _)] at h1
    have h2 : ¬ (c.length + u ≤ Iso.partner (c ++ List.replicate u 23) i) := fun h => h1 ⟨hs2, by omega, h⟩
    omega
  · intro h
    rw [Iso.partner_left c _ i (by omega)]
theorem shut_pdis {c : List Int} {u j : Nat} (hu : u = (Iso.stk c c.length).length) (hj : j < u) : 0 ≤ Iso.mt (c ++ List.replicate u 23) (c.length + j) ∧ Iso.mt (c ++ List.replicate u 23) (c.length + j) < (c.length : Int) := by
  have hx : (c ++ List.replicate u (23 : Int)).getD (c.length + j) 0 = 23 := by
    rw [getD_right]; simp [List.getD, hj]
  have e1 : Iso.mt (c ++ List.replicate u 23) (c.length + j) = Iso.hd ((Iso.stk c c.length).drop j) := by
    unfold Iso.mt; rw [hx, if_neg (by decide), if_pos rfl, Iso.stk_pdis c u j (by omega)]
  rw [e1]
  cases hd : (Iso.stk c c.length).drop j with
  | nil =>
    have := congrArg List.length hd
    rw [List.length_drop, List.length_nil] at this
    omega
  | cons y s =>
    have hy : y ∈ Iso.stk c c.length := List.mem_of_mem_drop (by rw [hd]; simp)
    have := (Iso.stk_lt c _ y hy).1
    rw [Iso.hd]; omega
structure SI (w : World) (c : List Int) (n u : Nat) (v : Value) (wr : World) : Prop where
  own : wr.ownsRow w.heap.size 3 1 v (n + u) ((c ++ List.replicate u 23).map (Value.int .i64))
  bel : KO w wr
theorem SI.snoc {w : World} {c : List Int} {n u : Nat} {wr w2 : World} {v2 : Value} {o : Obj} (hb : KO w wr) (hb2 : Below w.heap.size (wr.alloc o) w2) (ho : w2.ownsRow w.heap.size 3 1 v2 (n + u + 1) ((c ++ List.replicate u 23).map (Value.int .i64) ++ [(23 : Int)].map (Value.int .i64))) : SI w c n (u + 1) v2 w2 := by
  refine ⟨?_, Below.trans (Below.alloc hb hb.size o) hb2⟩
  rw [rep_snoc, ← List.append_assoc, List.map_append]
  exact ho
theorem IsolateShut_walk (w : World) (a0 : Option Addr) (n0 cap0 : Nat) (c : List Int) (h0 : Row .i64 w a0 n0 cap0 c) (hf0 : ∀ x ∈ c, (Lit.int .i64 x).wf = true) (hs0 : n0 ≤ 1048576) :
    Calls Try.prog 8 #[.slice a0 n0 cap0] w fun e w' => e = .returned (.bool true) ∧ Below w.heap.size w w' := by
  obtain ⟨ii, hii, hy0, hy1, hy2⟩ := info_parts infoInt
  have HII : Hid (Try.prog.info? 3 = some ii) := hii
  have HY0 := hide hy0
  have HY1 := hide hy1
  have HY2 := hide hy2
  have HW := hide (works_any w)
  have H0 := hide h0
  have HL0 := hide h0.len
  clear h0 hf0 hii hy0 hy1 hy2
  go_enter Try.func8, Try.ntmps8
  go_wp2_with fail
  refine HW.out.mono ?_
  rintro e w1 ⟨rfl, hb1⟩
  have k1 : KO w w1 := hb1
  have HM := hide (match_any a0 n0 cap0 c w1 (H0.out.below hb1) (by omega))
  clear HW hb1
  go_wp2_with fail
  refine HM.out.mono ?_
  rintro e w2 ⟨rfl, ho2, hb2⟩
  have k12 : KO w1 w2 := hb2
  have k2 : KO w w2 := KO.on k1 k12
  have HKA := hide (show KO w2 (w2.alloc (.cells #[] 3)) from KO.alloc (KO.refl _) _)
  have HMC := hide (fun (w' : World) (hk : KO w2 w') (j : Nat) (hj : j < n0) => ownAt ho2 hk j hj)
  have HMA := hide (fun (j : Nat) (hj : j < n0) => Iso.MT_at c j (by rw [HL0.out]; exact hj))
  have HK2 := hide k2
  clear HM ho2 hb2 k1 k12
  go_wp2_with (at_builtin; refine wpList_append_row _ rfl (.tmp 15) (.tmp 16) 22 rfl w2.heap.size 3 ii (.int .i64 0) 8 Try.underlying22 HII.out HY0.out HY1.out HY2.out rfl _ 0 [] rfl (owns_empty w2 3 w2.heap.size rfl) .i64 a0 n0 cap0 c rfl (H0.out.below (KO.on k2 HKA.out)) (by omega) (by omega) (by simp) ?_; intro v3 w3 hown3 hb3; rw [List.nil_append, Nat.zero_add] at hown3; obtain ⟨a3, c3, rfl, _⟩ := owns_form hown3)
  have HI3 := hide (show SI w2 c n0 0 _ w3 from ⟨by simpa using hown3, Below.trans HKA.out hb3⟩)
  have HAC := hide (fun (w' : World) (hk : KO w2 w') (b2 off : Nat) (hr : Row .i64 w (some ⟨b2, off, none⟩) n0 cap0 c) (j : Nat) (hj : j < n0) => rowAt hr (KO.on HK2.out hk) j hj)
  clear hown3 hb3 k2 HKA
  generalize w1.heap.size = G1 at *
  go_loopw [4, 20] (fun sv v wr => ∃ i u : Nat, i ≤ n0 ∧ v = .int .i64 (i : Int) ∧ u ≤ i ∧ Hid (unm c i = u) ∧ Hid (SI w2 c n0 u sv wr)) (fun _ v _ => n0 - (intOf v).toNat)
  case atStart => exact ⟨0, 0, Nat.zero_le _, rfl, Nat.le_refl _, rfl, HI3⟩
  case round =>
    obtain ⟨i, u, hi, rfl, hui, hu, hS⟩ := hrel
    by_cases hlt : i < n0
    · obtain ⟨b2, off, rfl, hbl, hc⟩ := H0.out.cells (by omega)
      have hil : i < c.length := by rw [HL0.out]; exact hlt
      have cc := HAC.out wr hS.out.bel b2 off H0.out i hlt
      have cm := HMC.out wr hS.out.bel i hlt
      rw [HMA.out i hlt] at cm
      have hin : (i : Int) < (n0 : Int) := by omega
      have HT := hide (starts_any (c.getD i 0) wr)
      have hus : unm c (i + 1) = unm c i + (if (Iso.st (c.getD i 0) && decide (c.length ≤ Iso.partner c i)) = true then 1 else 0) := rfl
      rw [hu.out, HL0.out] at hus
      have MEAS := hide (meas_n0 n0 i hlt)
      clear hc
      cases hs : Iso.st (c.getD i 0) with
      | true =>
        rw [hs] at HT hus
        have hmt : Iso.mt c i = (Iso.partner c i : Int) := by unfold Iso.mt; rw [if_pos hs]
        have hp2 := Iso.partner_le c i hil
        rw [HL0.out] at hp2
        rw [hmt] at cm
        by_cases hp : Iso.partner c i = n0
        · have HU := hide (show unm c (i + 1) = u + 1 from by rw [hus, hp, decide_eq_true (Nat.le_refl _)]; rfl)
          rw [hp] at cm
          have HOW := hide hS.out.own
          have hsz := hS.out.bel.size
          have HSN := hide (fun (v2 : Value) (w2' : World) (o : Obj) => SI.snoc (c := c) (n := n0) (u := u) (v2 := v2) (w2 := w2') (o := o) hS.out.bel)
          obtain ⟨a4, c4, rfl, _⟩ := owns_form hS.out.own
          generalize c.getD i 0 = x at *
          clear hs hmt hil hp2 hp hus hS
          go_wp2_with (first
            | (go_at_call 17; refine HT.out.mono ?_; rintro e w' ⟨rfl, rfl⟩)
            | (at_builtin; refine wpList_append_row _ rfl (.tmp 36) (.tmp 37) 22 rfl w2.heap.size 3 ii (.int .i64 0) 8 Try.underlying22 HII.out HY0.out HY1.out HY2.out rfl _ (n0 + u) _ rfl (HOW.out.alloc _) .i64 _ 1 1 [(23 : Int)] rfl (row_one _ wr.heap.size rfl 23) (by omega) (by omega) (by simp; omega) ?_; intro v5 w5 hown5 hb5))
          have HS5 := hide (HSN.out _ _ _ hb5 hown5)
          clear hown5 hb5 HSN HOW
          go_wp2_with fail
          exact ⟨⟨i + 1, u + 1, by omega, by go_num, by omega, HU, HS5⟩, MEAS.out⟩
        · have HU := hide (show unm c (i + 1) = u from by rw [hus, decide_eq_false (by omega)]; rfl)
          obtain ⟨a4, c4, rfl, _⟩ := owns_form hS.out.own
          generalize Iso.partner c i = p at *
          have hpf : ((p : Int) == (n0 : Int)) = false := beq_false_of_ne (by omega)
          generalize c.getD i 0 = x at *
          clear hs hmt hil hp2 hp hus
          go_wp2_with (go_at_call 17; refine HT.out.mono ?_; rintro e w' ⟨rfl, rfl⟩)
          exact ⟨⟨i + 1, u, by omega, by go_num, by omega, HU, hS⟩, MEAS.out⟩
      | false =>
        rw [hs] at HT hus
        have HU := hide (show unm c (i + 1) = u from by rw [hus]; rfl)
        obtain ⟨a4, c4, rfl, _⟩ := owns_form hS.out.own
        generalize c.getD i 0 = x at *
        clear hs hil hus
        go_wp2_with (go_at_call 17; refine HT.out.mono ?_; rintro e w' ⟨rfl, rfl⟩)
        exact ⟨⟨i + 1, u, by omega, by go_num, by omega, HU, hS⟩, MEAS.out⟩
    · obtain rfl : i = n0 := by omega
      have hne : ¬ ((i : Int) < (i : Int)) := by omega
      have HU := hide (show u = (Iso.stk c c.length).length from by rw [← unm_end, HL0.out, hu.out])
      obtain ⟨a4, c4, rfl, hr4⟩ := row_of_owns hS.out.own
      have HR4 := hide hr4
      have hkr : KO w2 wr := hS.out.bel
      have HM := hide (match_any a4 (i + u) c4 (c ++ List.replicate u 23) wr hr4 (by omega))
      clear hlt hS hu hr4
      go_wp2_with fail
      refine HM.out.mono ?_
      rintro e w6 ⟨rfl, ho6, hb6⟩
      have k6 : KO w2 w6 := KO.on hkr hb6
      have HLB := hide (show (c ++ List.replicate u (23 : Int)).length = i + u from by rw [List.length_append, HL0.out, List.length_replicate])
      have HZC := hide (fun (w' : World) (hk : KO w6 w') (j : Nat) (hj : j < i + u) => (ownAt ho6 hk j hj).trans (by rw [Iso.MT_at (c ++ List.replicate u 23) j (by rw [HLB.out]; exact hj)]))
      have HZL := hide (fun (j : Nat) (hj : j < i) (hs : Iso.st (c.getD j 0) = true) => shut_partner (u := u) HU.out (by rw [HL0.out]; exact hj) hs)
      have HZR := hide (fun (j : Nat) (hj : j < u) => shut_pdis (c := c) HU.out hj)
      rw [HL0.out] at HZL HZR
      have HK6 := hide k6
      have enn : ((i + u : Nat) : Int) = (i : Int) + (u : Int) := by omega
      clear HM ho6 hb6 k6 hkr
      generalize wr.heap.size = G3 at *
      go_wp2_with fail
      go_loopw [49] (fun v wr => ∃ p : Nat, p ≤ i ∧ v = .int .i64 (p : Int) ∧ KO w6 wr) (fun v _ => i - (intOf v).toNat)
      case atStart => exact ⟨0, Nat.zero_le _, rfl, KO.refl _⟩
      case round =>
        obtain ⟨p, hp, rfl, hkp⟩ := hrel
        by_cases hlt : p < i
        · obtain ⟨b2, off, rfl, hbl, hc⟩ := H0.out.cells (by omega)
          have cc := HAC.out wr (KO.on HK6.out hkp) b2 off H0.out p hlt
          have cz := HZC.out wr hkp p (by omega)
          have cm := HMC.out wr (KO.on HK6.out hkp) p hlt
          rw [HMA.out p hlt] at cm
          have hzl := HZL.out p hlt
          have HT := hide (fun w' => starts_any (c.getD p 0) w')
          generalize Iso.mt c p = m at *
          generalize Iso.mt (c ++ List.replicate u 23) p = z at *
          have hin : (p : Int) < (i : Int) := by omega
          have hin2 : (p : Int) < (i : Int) + (u : Int) := by omega
          clear hc
          cases hs : Iso.st (c.getD p 0) with
          | false =>
            rw [hs] at HT
            generalize c.getD p 0 = x at *
            clear hs hzl
            go_wp2_with fail
            go_quiet (first | (go_at_call 17; refine Calls.quiet_of_same ((HT.out _).mono fun _ _ ⟨he, hm⟩ => ⟨he, hm.symm⟩)))
            go_wp2_with fail
            exact ⟨⟨p + 1, by omega, by go_num, KO.on hkp (below_drewN _ _)⟩, meas_n0 i p hlt⟩
          | true =>
            rw [hs] at HT
            obtain ⟨z1, z2⟩ := hzl hs
            have hzn : (z == (i : Int) + (u : Int)) = false := beq_false_of_ne (by omega)
            generalize c.getD p 0 = x at *
            clear hs hzl
            by_cases hm : m < (i : Int)
            · obtain rfl := z2 hm
              clear z2
              have hmd : decide (z < (i : Int)) = true := decide_eq_true hm
              go_wp2_with fail
              go_quiet (first | (go_at_call 17; refine Calls.quiet_of_same ((HT.out _).mono fun _ _ ⟨he, hm⟩ => ⟨he, hm.symm⟩)))
              go_wp2_with fail
              exact ⟨⟨p + 1, by omega, by go_num, KO.on hkp (below_drewN _ _)⟩, meas_n0 i p hlt⟩
            · clear z2
              have hmd : decide (m < (i : Int)) = false := decide_eq_false hm
              go_wp2_with fail
              go_quiet (first | (go_at_call 17; refine Calls.quiet_of_same ((HT.out _).mono fun _ _ ⟨he, hm⟩ => ⟨he, hm.symm⟩)))
              go_wp2_with fail
              exact ⟨⟨p + 1, by omega, by go_num, KO.on hkp (below_drewN _ _)⟩, meas_n0 i p hlt⟩
        · have hnp : ¬ ((p : Int) < (i : Int)) := by omega
          clear hlt
          go_wp2_with fail
          have HKP := hide hkp
          go_loopw [10] (fun v wr => ∃ q : Nat, q ≤ u ∧ v = .int .i64 ((i : Int) + (q : Int)) ∧ KO w6 wr) (fun v _ => i + u - (intOf v).toNat)
          case atStart => exact ⟨0, Nat.zero_le _, by simp, HKP.out⟩
          case round =>
            obtain ⟨q, hq, rfl, hkq⟩ := hrel
            by_cases hlt : q < u
            · have cz := HZC.out wr hkq (i + q) (by omega)
              obtain ⟨hz1, hz2⟩ := HZR.out q hlt
              generalize Iso.mt (c ++ List.replicate u 23) (i + q) = z at *
              have hin2 : (i : Int) + (q : Int) < (i : Int) + (u : Int) := by omega
              have htn : ((i : Int) + (q : Int)).toNat = i + q := by omega
              have hz3 : ¬ z < 0 := by omega
              have hz4 : ¬ (i : Int) ≤ z := by omega
              clear hz1 hz2
              go_wp2_with fail
              exact ⟨⟨q + 1, by omega, by go_num, hkq⟩, by simp [intOf]; omega⟩
            · have hnq : ¬ ((i : Int) + (q : Int) < (i : Int) + (u : Int)) := by omega
              clear hlt
              have HE := hide (show Below w.heap.size w wr from KO.on HK2.out (KO.on HK6.out hkq))
              go_wp2_with fail
              go_ret
              exact ⟨rfl, HE.out⟩
end Go.Proofs.Ytfdfoojagngnnaa
