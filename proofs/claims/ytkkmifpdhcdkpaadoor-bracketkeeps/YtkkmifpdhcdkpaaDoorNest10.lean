/- BracketNest: its walk. -/
import Derived.Test.YtkkmifpdhcdkpaaDoorWorks10
import Derived.Deep.RegionWith
namespace Go.Proofs.YtkkmifpdhcdkpaaDoor
open Go.RowKit
set_option linter.unusedVariables false
set_option maxHeartbeats 1000000
set_option maxRecDepth 100000
namespace Br
theorem kd_one {l t : List Int} {i : Nat} {k : Int} (h : kd l t i = k) (hk : ¬ k = 0) : t.getD i 0 = 14 ∧ (Ucd.side (l.getD i 0)).1 = k := by
  by_cases h14 : t.getD i 0 = 14
  · exact ⟨h14, by rw [← kd_on h14]; exact h⟩
  · rw [kd_not h14] at h; exact absurd h.symm hk
/-- What a pair is. -/
theorem PP_is {l t : List Int} {j : Nat} (h : j < (PP l t).length) : ((PP l t).getD j (0, 0)).1 < ((PP l t).getD j (0, 0)).2 ∧ ((PP l t).getD j (0, 0)).2 < l.length ∧
    t.getD ((PP l t).getD j (0, 0)).1 0 = 14 ∧ t.getD ((PP l t).getD j (0, 0)).2 0 = 14 ∧ (Ucd.side (l.getD ((PP l t).getD j (0, 0)).1 0)).1 = 1 ∧ (Ucd.side (l.getD ((PP l t).getD j (0, 0)).2 0)).1 = 2 ∧
    Ucd.canon (Ucd.side (l.getD ((PP l t).getD j (0, 0)).1 0)).2 = Ucd.canon (l.getD ((PP l t).getD j (0, 0)).2 0) := by
  obtain ⟨h1, h2, h3, h4, h5⟩ := F_p _ (mem_PS.1 (PP_at h))
  obtain ⟨q1, q2⟩ := kd_one h3 (by decide)
  obtain ⟨q3, q4⟩ := kd_one h4 (by decide)
  exact ⟨h1, h2, q1, q3, q2, q4, eq_of_beq h5⟩
/-- Two of them. -/
theorem PP_two {l t : List Int} {i j : Nat} (hij : i < j) (h : j < (PP l t).length) : ((PP l t).getD i (0, 0)).1 < ((PP l t).getD j (0, 0)).1 ∧ ¬ ((PP l t).getD i (0, 0)).2 = ((PP l t).getD j (0, 0)).2 ∧ ¬ (((PP l t).getD j (0, 0)).1 < ((PP l t).getD i (0, 0)).2 ∧ ((PP l t).getD i (0, 0)).2 < ((PP l t).getD j (0, 0)).2) := by
  have hr := PS_rise (kd := kd l t) (mt := mt l) (n := l.length)
  have hi : i < (PP l t).length := by omega
  have hlt : ((PP l t).getD i (0, 0)).1 < ((PP l t).getD j (0, 0)).1 := by
    rw [List.pairwise_iff_getElem] at hr
    have := hr i j hi h hij
    simp only [List.getD_eq_getElem?_getD, List.getElem?_eq_getElem h, List.getElem?_eq_getElem hi, Option.getD_some]
    exact this
  have h1 := F_p _ (mem_PS.1 (PP_at hi))
  have h2 := F_p _ (mem_PS.1 (PP_at h))
  rcases F_two (mem_PS.1 (PP_at hi)) (mem_PS.1 (PP_at h)) with h3 | h3 | h3
  · rw [h3] at hlt; omega
  · exact ⟨hlt, by omega, by omega⟩
  · exact ⟨hlt, by omega, by omega⟩
end Br
/-- A law for a store is tried at a store alone. -/
theorem at_store {P : Program} {ops : Array Oper} {rest : List Oper} {a : Act} {w : World} {Q : Exit → Act → World → Prop} (o : Oper) (h : wpList P ops Q (o :: rest) a w) : wpList P ops Q (o :: rest) a w := h
theorem run_upto2 (ao : Option Addr) (n cap j : Nat) (hj : j ≤ cap) (w : World) :
    (Instr.slice 25 (.slice ao n cap) none (some (.int .i64 (j : Int))) none).run Tryd.prog w = .ok (.slice ao j cap) w := by
  have e1 : (0 : Int) ≤ (j : Int) ∧ (j : Int) ≤ (cap : Int) := by omega
  cases ao <;> simp [Instr.slice, run_underlying Tryd.underlying25, Instr.sliceBounds, go_sem, e1]
theorem BracketNest_walk (w : World) (hm : Marks w) (a0 : Option Addr) (n0 c0 : Nat) (l : List Int) (h0 : Row .i32 w a0 n0 c0 l) (f0 : ∀ x ∈ l, (Lit.int .i32 x).wf = true) (b0 : n0 * 4 ≤ 140737488351232)
    (a1 : Option Addr) (n1 c1 : Nat) (t : List Int) (h1 : Row .i64 w a1 n1 c1 t) (f1 : ∀ x ∈ t, (Lit.int .i64 x).wf = true) (b1 : n1 * 8 ≤ 140737488351232) :
    Calls Tryd.prog 5 #[.slice a0 n0 c0, .slice a1 n1 c1] w fun e w' => e = .returned (.bool true) ∧ Below w.heap.size w w' := by
  have HW := hide (works10_any w hm)
  have HM := hide hm
  have H0 := hide h0
  have H1 := hide h1
  have HF := hide f0
  have e0 := h0.len
  have e1 := h1.len
  by_cases hN : n0 = n1
  · subst hN
    have HPR := hide (fun W (hk : KO w W) => pairs_ok a0 a1 n0 c0 c1 l t W (H0.out.below hk) (H1.out.below hk) HF.out (HM.out.below hk) b1)
    have HE0 := hide e0
    have HE1 := hide e1
    clear hm h0 h1 f0 f1 e0 e1
    go_enter Tryd.func5, Tryd.ntmps5
    go_wp2_with fail
    refine HW.out.mono ?_
    rintro e w1 ⟨rfl, hk1⟩
    have HK1 := hide hk1
    clear hk1 HW
    go_wp2_with fail
    refine (HPR.out w1 HK1.out).mono ?_
    rintro e w2 ⟨ap, cp, rfl, hpp, hk2⟩
    have HK2 := hide (KO.on HK1.out hk2)
    have HPP := hide hpp
    have hpm := hpp.max
    have hpl := hpp.le
    unfold maxLen at hpm
    have HIS : Hid (∀ j, j < (Br.PP l t).length → _) := hide fun j hj => Br.PP_is (l := l) (t := t) hj
    have HTW : Hid (∀ i j, i < j → j < (Br.PP l t).length → _) := hide fun i j hij hj => Br.PP_two (l := l) (t := t) hij hj
    generalize hPS : Br.PP l t = PS at *
    generalize hPN : PS.length = pn at *
    clear hpp hk2 HPR HK1 hPS
    by_cases h3 : 300 < pn
    · have h3' : (300 : Int) < (pn : Int) := by omega
      go_wp2
      go_ret
      exact ⟨rfl, HK2.out⟩
    · have h3' : ¬ (300 : Int) < (pn : Int) := by omega
      go_wp2
      go_loopw [40] (fun v wr => ∃ j : Nat, v = .int .i64 (j : Int) ∧ j ≤ pn ∧ Hid (KO w2 wr)) (fun v _ => pn - (intOf v).toNat)
      case atStart => exact ⟨0, rfl, Nat.zero_le _, hide (KO.refl _)⟩
      case round =>
        obtain ⟨j, rfl, hj, HK⟩ := hrel
        by_cases hjn : j < pn
        · have hjn' : (j : Int) < (pn : Int) := by omega
          obtain ⟨b, eb, hb, hc⟩ := (HPP.out.below HK.out).cells (by omega)
          obtain ⟨t0, t1⟩ := hc j hjn
          subst eb
          have HI := hide (HIS.out j hjn)
          obtain ⟨i1, i2, i3, i4, i5, i6, i7⟩ := HI.out
          have HTJ := hide (fun i hij => HTW.out i j hij hjn)
          rw [HE0.out] at i2
          clear hc hb HI
          generalize PS.getD j (0, 0) = pp at *
          obtain ⟨x, y⟩ := pp
          simp only at t0 t1 i1 i2 i3 i4 i5 i6 i7
          obtain ⟨g0, g1⟩ := cells2 wr (.int .i64 (x : Int)) (.int .i64 (y : Int)) 42
          have hblk : (wr.alloc (.cells #[.int .i64 (x : Int), .int .i64 (y : Int)] 42)).heap[wr.heap.size]? = some (.cells #[.int .i64 (x : Int), .int .i64 (y : Int)] 42 (0, 0)) := heap_alloc_last wr _
          have hkX : KO wr (wr.alloc (.cells #[.int .i64 (x : Int), .int .i64 (y : Int)] 42)) := KO.alloc (KO.refl _) _
          have hsz : (wr.alloc (.cells #[.int .i64 (x : Int), .int .i64 (y : Int)] 42)).heap.size = wr.heap.size + 1 := by simp
          generalize hX : wr.alloc (.cells #[.int .i64 (x : Int), .int .i64 (y : Int)] 42) = X at g0 g1 hblk hkX hsz
          have hkwX : KO w X := KO.on (KO.on HK2.out HK.out) hkX
          obtain ⟨bl, ol, el, hbl, hcl⟩ := H0.out.cells (by omega)
          obtain ⟨bt, ot, et, hbt, hct⟩ := H1.out.cells (by omega)
          subst el; subst et
          have HLY := hide (hcl y (by rw [HE0.out]; exact i2))
          have lx : X.cell? ⟨bl, ol + x, none⟩ = some (.int .i32 (l.getD x 0)) := (Below.cell hkwX (by exact hbl)).trans (hcl x (by rw [HE0.out]; omega))
          have ly : X.cell? ⟨bl, ol + y, none⟩ = some (.int .i32 (l.getD y 0)) := (Below.cell hkwX (by exact hbl)).trans HLY.out
          have tx : X.cell? ⟨bt, ot + x, none⟩ = some (.int .i64 14) := by rw [← i3]; exact (Below.cell hkwX (by exact hbt)).trans (hct x (by rw [HE1.out]; omega))
          have ty : X.cell? ⟨bt, ot + y, none⟩ = some (.int .i64 14) := by rw [← i4]; exact (Below.cell hkwX (by exact hbt)).trans (hct y (by rw [HE1.out]; omega))
          have hmem : ∀ z, z < n0 → l.getD z 0 ∈ l := fun z hz => by
            have hl : z < l.length := by rw [HE0.out]; exact hz
            rw [show l.getD z 0 = l[z] from by simp [List.getD, List.getElem?_eq_getElem hl]]
            exact List.getElem_mem hl
          have HB1 := hide (bracket_any (l.getD x 0) X (HF.out _ (hmem x (by omega))) (HM.out.below hkwX))
          have HB2 := hide (fun W (hk : KO X W) => bracket_any (l.getD y 0) W (HF.out _ (hmem y i2)) (HM.out.below (KO.on hkwX hk)))
          rw [i5] at HB1
          rw [i6] at HB2
          have HC1 := hide (fun W => canon_any (Ucd.side (l.getD x 0)).2 W)
          have HC2 := hide (fun W => canon_any (l.getD y 0) W)
          rw [i7] at HC1
          have HKX := hide hkX
          have HBL := hide (show bl < X.heap.size from Nat.lt_of_lt_of_le hbl hkwX.size)
          have HBK := hide hblk
          have HSZ := hide hsz
          have q1 : ¬ ((x : Int) < 0) := by omega
          have q2 : ¬ ((y : Int) ≤ (x : Int)) := by omega
          have q3 : ¬ ((n0 : Int) ≤ (y : Int)) := by omega
          have q4 : (x : Int) < (n0 : Int) := by omega
          have q5 : (y : Int) < (n0 : Int) := by omega
          generalize (Ucd.side (l.getD x 0)).2 = px at *
          generalize (Ucd.side (l.getD y 0)).2 = py at *
          generalize l.getD x 0 = vx at *
          generalize Ucd.canon (l.getD y 0) = cy at *
          generalize l.getD y 0 = vy at *
          have HLY2 := hide ly
          clear hcl hct hmem hkwX hkX hblk hsz i3 i4 i5 i6 i7 HLY
          go_wp2_with (first
            | (with_reducible refine at_store { dst := none, op := .store 42 _ _, type := _, pos := _, after := _, guard := none } ?_; refine wpList_store_new wr rfl 42 _ _ rfl rfl #[.int .i64 0, .int .i64 0] #[.int .i64 (x : Int), .int .i64 (y : Int)] rfl rfl (two_info two64 _ _) rfl (two_one64 _ _) ?_))
          refine HB1.out.mono ?_
          rintro e w5 ⟨rfl, hk5⟩
          have r5 : w5.cell? ⟨wr.heap.size, 1, none⟩ = some (.int .i64 (y : Int)) := (Below.cell hk5 (by show wr.heap.size < _; rw [HSZ.out]; omega)).trans g1
          have y5 : w5.cell? ⟨bl, ol + y, none⟩ = some (.int .i32 vy) := (Below.cell hk5 (by exact HBL.out)).trans HLY2.out
          have HK5 := hide hk5
          clear hk5 g0 lx ly tx ty t0 t1 HB1 hX
          go_wp2_with fail
          refine (HB2.out w5 HK5.out).mono ?_
          rintro e w6 ⟨rfl, hk6⟩
          have hk56 : KO X w6 := KO.on HK5.out hk6
          have r6 : w6.cell? ⟨wr.heap.size, 1, none⟩ = some (.int .i64 (y : Int)) := cell_of_block ((hk56.block _ (by rw [HSZ.out]; omega)).trans HBK.out) rfl
          have y6 : w6.cell? ⟨bl, ol + y, none⟩ = some (.int .i32 vy) := (Below.cell hk56 (by exact HBL.out)).trans HLY2.out
          have HBK6 := hide ((hk56.block _ (by rw [HSZ.out]; omega)).trans HBK.out)
          have HK6 := hide (KO.on HK.out (KO.on HKX.out hk56))
          have hup := run_upto2 (some ⟨b, 0, none⟩) pn cp j (by omega)
          have HS6 := hide (show wr.heap.size < w6.heap.size from by have := hk56.size; rw [HSZ.out] at this; omega)
          clear hk6 hk56 r5 y5 g1 HB2 HK5 HKX HBK HBL HLY2
          go_wp2_with fail
          go_quiet (first | (go_at_call_of 18 px; first | exact Calls.quiet_of_same ((HC1.out _).mono fun _ _ ⟨he, hm⟩ => ⟨he, hm.symm⟩) | exact (HC1.out _).mono fun _ _ ⟨he, hm⟩ => ⟨he, _, hm.symm⟩) | (go_at_call_of 18 vy; first | exact Calls.quiet_of_same ((HC2.out _).mono fun _ _ ⟨he, hm⟩ => ⟨he, hm.symm⟩) | exact (HC2.out _).mono fun _ _ ⟨he, hm⟩ => ⟨he, _, hm.symm⟩))
          go_wp2
          generalize hV : w6.drewN nq = V
          have HKV := hide (show KO w6 V from by rw [← hV]; exact below_drewN w6 nq)
          have HSV := hide (show wr.heap.size < V.heap.size from Nat.lt_of_lt_of_le HS6.out HKV.out.size)
          have HBV := hide ((HKV.out.block _ HS6.out).trans HBK6.out)
          have HPV := hide (HPP.out.below (KO.on HK6.out HKV.out))
          clear hV r6 y6 HBK6 HC1 HC2
          go_loopw [117] (fun v wi => ∃ i : Nat, v = .int .i64 (i : Int) ∧ i ≤ j ∧ Hid (KO V wi)) (fun v _ => j - (intOf v).toNat)
          case atStart => exact ⟨0, rfl, Nat.zero_le _, hide (KO.refl _)⟩
          case round =>
            rename World => wi
            obtain ⟨i, rfl, hi, HKI⟩ := hrel
            by_cases hij : i < j
            · have hij' : (i : Int) < (j : Int) := by omega
              obtain ⟨b2, eb2, hb2, hc2⟩ := (HPV.out.below HKI.out).cells (by omega)
              obtain ⟨s0, s1⟩ := hc2 i (by omega)
              simp only [Option.some.injEq, Addr.mk.injEq, and_true] at eb2
              subst eb2
              obtain ⟨k1, k2, k3⟩ := HTJ.out i hij
              clear hc2 hb2
              generalize PS.getD i (0, 0) = pq at *
              obtain ⟨u, v⟩ := pq
              simp only at s0 s1 k1 k2 k3
              have r0 : wi.cell? ⟨wr.heap.size, 0, none⟩ = some (.int .i64 (x : Int)) := cell_of_block ((HKI.out.block _ HSV.out).trans HBV.out) rfl
              have r1 : wi.cell? ⟨wr.heap.size, 1, none⟩ = some (.int .i64 (y : Int)) := cell_of_block ((HKI.out.block _ HSV.out).trans HBV.out) rfl
              obtain ⟨g0, g1⟩ := cells2 wi (.int .i64 (u : Int)) (.int .i64 (v : Int)) 42
              have hkY : KO wi (wi.alloc (.cells #[.int .i64 (u : Int), .int .i64 (v : Int)] 42)) := KO.alloc (KO.refl _) _
              have hlw : wr.heap.size < wi.heap.size := Nat.lt_of_lt_of_le HSV.out HKI.out.size
              have r0' := (Below.cell hkY (p := ⟨wr.heap.size, 0, none⟩) (by exact hlw)).trans r0
              have r1' := (Below.cell hkY (p := ⟨wr.heap.size, 1, none⟩) (by exact hlw)).trans r1
              generalize hY : wi.alloc (.cells #[.int .i64 (u : Int), .int .i64 (v : Int)] 42) = Y at g0 g1 hkY r0' r1'
              have HKY := hide (KO.on HKI.out hkY)
              have z1 : ¬ ((x : Int) ≤ (u : Int)) := by omega
              have z2 : ((v : Int) == (y : Int)) = false := beq_false_of_ne (by omega)
              have z3 : ¬ ((v : Int) = (y : Int)) := by omega
              clear hkY r0 r1 HKI
              by_cases hxv : x < v
              · have z4 : (x : Int) < (v : Int) := by omega
                have z5 : ¬ ((v : Int) < (y : Int)) := by omega
                clear k1 k2 k3 hxv
                go_wp2_with (first
                  | (with_reducible refine at_store { dst := none, op := .store 42 _ _, type := _, pos := _, after := _, guard := none } ?_; refine wpList_store_new wi rfl 42 _ _ rfl rfl #[.int .i64 0, .int .i64 0] #[.int .i64 (u : Int), .int .i64 (v : Int)] rfl rfl (two_info two64 _ _) rfl (two_one64 _ _) ?_))
                go_roundw
                case rel => exact ⟨i + 1, by go_num, by omega, HKY⟩
                case measure => simp [intOf]; omega
              · have z4 : ¬ ((x : Int) < (v : Int)) := by omega
                clear k1 k2 k3 hxv
                go_wp2_with (first
                  | (with_reducible refine at_store { dst := none, op := .store 42 _ _, type := _, pos := _, after := _, guard := none } ?_; refine wpList_store_new wi rfl 42 _ _ rfl rfl #[.int .i64 0, .int .i64 0] #[.int .i64 (u : Int), .int .i64 (v : Int)] rfl rfl (two_info two64 _ _) rfl (two_one64 _ _) ?_))
                go_roundw
                case rel => exact ⟨i + 1, by go_num, by omega, HKY⟩
                case measure => simp [intOf]; omega
            · obtain rfl : i = j := by omega
              have hne : ¬ ((i : Int) < (i : Int)) := by omega
              have HKN := hide (KO.on HK6.out (KO.on HKV.out HKI.out))
              clear HKI
              go_wp2
              go_roundw
              case rel => exact ⟨i + 1, by go_num, by omega, HKN⟩
              case measure => simp [intOf]; omega
        · obtain rfl : j = pn := by omega
          have hne : ¬ ((j : Int) < (j : Int)) := by omega
          have HE := hide (KO.on HK2.out HK.out)
          go_wp2
          go_ret
          exact ⟨rfl, HE.out⟩
  · have h63 : n0 ≤ 9223372036854775807 := by omega
    have h64 : n1 ≤ 9223372036854775807 := by omega
    have HPR := hide (fun W => pairs_bad a0 a1 n0 n1 c0 c1 W hN h63 h64)
    have hnb : ((n0 : Int) != (n1 : Int)) = true := bne_iff_ne.2 (by omega)
    clear hm h0 h1 f0 f1 e0 e1
    go_enter Tryd.func5, Tryd.ntmps5
    go_wp2_with fail
    refine HW.out.mono ?_
    rintro e w1 ⟨rfl, hk1⟩
    have HK1 := hide hk1
    clear hk1 HW
    go_wp2_with fail
    refine (HPR.out w1).mono ?_
    rintro e w2 ⟨rfl, rfl⟩
    go_wp2
    go_ret
    exact ⟨rfl, HK1.out⟩
end Go.Proofs.YtkkmifpdhcdkpaaDoor
