/- The document's behind: what is kept behind a place. -/
import Derived.Test.YthohbiklnknofaaRa
namespace Go.Proofs.Ythohbiklnknofaa
open Go.RowKit
set_option linter.unusedVariables false
set_option maxHeartbeats 2000000
set_option maxRecDepth 100000
theorem rbeh_other {w : World} {st : List Ex.Ent} {g n cap : Nat} {oi oe va : Nat} {b : Int} {k : Nat} (h : WA w st g n cap) (hok : Ex.Ok b ⟨st, oi, oe, va⟩ k) (hb0 : 0 ≤ b) (hb1 : b ≤ 1) (hk : k ≤ 1000) (ao : Option Addr) (nc capc : Nat) (c : List Int) (hr : Row .i64 w ao nc capc c) (hnc : nc ≤ 300) (i : Nat) (hi : i < nc) (x : Int) (hx : c.getD i 0 = x) (hoth : ¬ x = 17 ∧ ¬ x = 15 ∧ ¬ x = 18 ∧ ¬ x = 16 ∧ ¬ x = 19 ∧ ¬ x = 23 ∧ ¬ x = 20 ∧ ¬ x = 21 ∧ ¬ x = 22) :
    Calls Try.prog 45 #[.agg #[.slice (some ⟨g, 0, none⟩) n cap, .int .i64 (oi : Int), .int .i64 (oe : Int), .int .i64 (va : Int)], .slice ao nc capc, .int .i64 (i : Int)] w fun e w' => ∃ g' n' cap', e = .returned (.agg #[.slice (some ⟨g', 0, none⟩) n' cap', .int .i64 (((⟨st, oi, oe, va⟩ : Ex.St)).oi : Int), .int .i64 (((⟨st, oi, oe, va⟩ : Ex.St)).oe : Int), .int .i64 (((⟨st, oi, oe, va⟩ : Ex.St)).va : Int)]) ∧ WA w' ((⟨st, oi, oe, va⟩ : Ex.St)).st g' n' cap' ∧ Below w.heap.size w w' := by
  have hlo := hok.ch.lo
  have hhi := hok.ch.hi (by omega)
  have hpos := hok.ch.pos
  have hcl := hok.ch.len
  have hkoi := hok.oi
  have hkoe := hok.oe
  have hkva : va ≤ 126 := by have h1 : va = Ex.cn st := hok.va; have h2 := Ex.cn_le st; simp only at hcl hhi hlo; omega
  simp only at hlo hhi hpos hcl hkoi hkoe
  have hln := h.len
  have hn0 : 0 < n := by omega
  have hn2 : n ≤ 200 := by omega
  obtain ⟨W, hW⟩ : ∃ W, (w.alloc (.cells #[.slice (some ⟨g, 0, none⟩) n cap, .int .i64 (oi : Int), .int .i64 (oe : Int), .int .i64 (va : Int)] 68)).alloc (.cells #[.slice none 0 0, .int .i64 0, .int .i64 0, .int .i64 0] 68) = W := ⟨_, rfl⟩
  have hB : WB w W w.heap.size (w.heap.size + 1) g n cap (oi : Int) (oe : Int) (va : Int) := by rw [← hW]; exact WB.begin w g n cap oi oe va
  have hA : WA W st g n cap := h.below hB.bel
  have HA := hide hA
  have HB := hide hB
  have hfl := rfield_lv
  have hfo := rfield_ov
  have hfi := rfield_is
  have hrW := hr.below hB.bel
  have HRW := hide hrW
  obtain ⟨cb, off, rfl, hbl, hcc⟩ := hrW.cells (by omega)
  have ck : W.cell? ⟨cb, off + i, none⟩ = some (.int .i64 (c.getD i 0)) := hcc i (by rw [hr.len]; exact hi)
  rw [hx] at ck
  have hin : (i : Int) < (nc : Int) := by omega
  obtain ⟨p0, p1, p2, p3⟩ := hB.c
  obtain ⟨q0, q1, q2, q3⟩ := hB.qc
  have pf1 := hB.f 1
  have pf2 := hB.f 2
  have pf3 := hB.f 3
  have qf0 := hB.qf 0
  have qf1 := hB.qf 1
  have qf2 := hB.qf 2
  have qf3 := hB.qf 3
  have npq : ¬ w.heap.size + 1 = w.heap.size := by omega
  have npq2 : ¬ w.heap.size = w.heap.size + 1 := by omega
  obtain ⟨o1, o2, o3, o4, o5, o6, o7, o8, o9⟩ := hoth
  have z1 : (x == 17) = false := beq_false_of_ne o1
  have z2 : (x == 15) = false := beq_false_of_ne o2
  have z3 : (x == 18) = false := beq_false_of_ne o3
  have z4 : (x == 16) = false := beq_false_of_ne o4
  have z5 : (x == 19) = false := beq_false_of_ne o5
  have z6 : (x == 23) = false := beq_false_of_ne o6
  have z7 : (x == 20) = false := beq_false_of_ne o7
  have z8 : (x == 21) = false := beq_false_of_ne o8
  have z9 : (x == 22) = false := beq_false_of_ne o9
  clear hcc hrW hr hok h hA hB hx o1 o2 o3 o4 o5 o6 o7 o8 o9
  go_enter Try.func45, Try.ntmps45
  go_wp2
  exact bodyPost_ret (results1 Try.results45 _ _ _ (w.heap.size + 1) _ rfl (way_out HB.out g n cap oi oe va)) rfl ⟨g, n, cap, rfl, (HA.out).set4' ((HA.out).notWay (HB.out).hq) g n cap oi oe va, way_bel HB.out g n cap oi oe va⟩
theorem rbeh_pdf {w : World} {st : List Ex.Ent} {g n cap : Nat} {oi oe va : Nat} {b : Int} {k : Nat} (h : WA w st g n cap) (hok : Ex.Ok b ⟨st, oi, oe, va⟩ k) (hb0 : 0 ≤ b) (hb1 : b ≤ 1) (hk : k ≤ 1000) (ao : Option Addr) (nc capc : Nat) (c : List Int) (hr : Row .i64 w ao nc capc c) (hnc : nc ≤ 300) (i : Nat) (hi : i < nc) (hx : c.getD i 0 = 19) :
    Calls Try.prog 45 #[.agg #[.slice (some ⟨g, 0, none⟩) n cap, .int .i64 (oi : Int), .int .i64 (oe : Int), .int .i64 (va : Int)], .slice ao nc capc, .int .i64 (i : Int)] w fun e w' => ∃ g' n' cap', e = .returned (.agg #[.slice (some ⟨g', 0, none⟩) n' cap', .int .i64 ((Ex.pdf ⟨st, oi, oe, va⟩).oi : Int), .int .i64 ((Ex.pdf ⟨st, oi, oe, va⟩).oe : Int), .int .i64 ((Ex.pdf ⟨st, oi, oe, va⟩).va : Int)]) ∧ WA w' (Ex.pdf ⟨st, oi, oe, va⟩).st g' n' cap' ∧ Below w.heap.size w w' := by
  have hlo := hok.ch.lo
  have hhi := hok.ch.hi (by omega)
  have hpos := hok.ch.pos
  have hcl := hok.ch.len
  have hkoi := hok.oi
  have hkoe := hok.oe
  have hkva : va ≤ 126 := by have h1 : va = Ex.cn st := hok.va; have h2 := Ex.cn_le st; simp only at hcl hhi hlo; omega
  simp only at hlo hhi hpos hcl hkoi hkoe
  have hln := h.len
  have hn0 : 0 < n := by omega
  have hn2 : n ≤ 200 := by omega
  obtain ⟨W, hW⟩ : ∃ W, (w.alloc (.cells #[.slice (some ⟨g, 0, none⟩) n cap, .int .i64 (oi : Int), .int .i64 (oe : Int), .int .i64 (va : Int)] 68)).alloc (.cells #[.slice none 0 0, .int .i64 0, .int .i64 0, .int .i64 0] 68) = W := ⟨_, rfl⟩
  have hB : WB w W w.heap.size (w.heap.size + 1) g n cap (oi : Int) (oe : Int) (va : Int) := by rw [← hW]; exact WB.begin w g n cap oi oe va
  have hA : WA W st g n cap := h.below hB.bel
  have HA := hide hA
  have HB := hide hB
  have hfl := rfield_lv
  have hfo := rfield_ov
  have hfi := rfield_is
  have hrW := hr.below hB.bel
  have HRW := hide hrW
  obtain ⟨cb, off, rfl, hbl, hcc⟩ := hrW.cells (by omega)
  have ck : W.cell? ⟨cb, off + i, none⟩ = some (.int .i64 (c.getD i 0)) := hcc i (by rw [hr.len]; exact hi)
  rw [hx] at ck
  have hin : (i : Int) < (nc : Int) := by omega
  obtain ⟨p0, p1, p2, p3⟩ := hB.c
  obtain ⟨q0, q1, q2, q3⟩ := hB.qc
  have pf1 := hB.f 1
  have pf2 := hB.f 2
  have pf3 := hB.f 3
  have qf0 := hB.qf 0
  have qf1 := hB.qf 1
  have qf2 := hB.qf 2
  have qf3 := hB.qf 3
  have npq : ¬ w.heap.size + 1 = w.heap.size := by omega
  have npq2 : ¬ w.heap.size = w.heap.size + 1 := by omega
  have HL := hide (rlast_any hA hn0 oi oe va)
  clear hcc hrW hr h hB hx
  by_cases c1 : 0 < oi
  · have e1 : Ex.pdf ⟨st, oi, oe, va⟩ = ⟨st, oi, oe, va⟩ := by unfold Ex.pdf; rw [if_pos c1]
    rw [e1]
    have c1' : (0 : Int) < (oi : Int) := by omega
    clear e1 hok HL
    go_enter Try.func45, Try.ntmps45
    go_wp2
    exact bodyPost_ret (results1 Try.results45 _ _ _ (w.heap.size + 1) _ rfl (way_out HB.out g n cap oi oe va)) rfl ⟨g, n, cap, rfl, (HA.out).set4' ((HA.out).notWay (HB.out).hq) g n cap oi oe va, way_bel HB.out g n cap oi oe va⟩
  · have c1' : ¬ (0 : Int) < (oi : Int) := by omega
    by_cases c2 : 0 < oe
    · have e1 : Ex.pdf ⟨st, oi, oe, va⟩ = ⟨st, oi, oe - 1, va⟩ := by unfold Ex.pdf; rw [if_neg c1, if_pos c2]
      rw [e1]
      have c2' : (0 : Int) < (oe : Int) := by omega
      have e2 : ((oe - 1 : Nat) : Int) = (oe : Int) - 1 := by omega
      have HB2 := hide (HB.out.setOe ((oe : Int) - 1))
      have HA2 := hide (HA.out.other (p := w.heap.size) (j := 2) (v := .int .i64 ((oe : Int) - 1)) (HA.out.notWay HB.out.hp))
      have HE := hide e2
      clear e1 hok HL e2
      go_enter Try.func45, Try.ntmps45
      go_wp2
      exact bodyPost_ret (results1 Try.results45 _ _ _ (w.heap.size + 1) _ rfl (way_out HB2.out g n cap oi ((oe : Int) - 1) va)) rfl ⟨g, n, cap, by rw [HE.out], (HA2.out).set4' ((HA2.out).notWay (HB2.out).hq) g n cap oi ((oe : Int) - 1) va, way_bel HB2.out g n cap oi ((oe : Int) - 1) va⟩
    · have c2' : ¬ (0 : Int) < (oe : Int) := by omega
      have e0 : Ex.pdf ⟨st, oi, oe, va⟩ = if (Ex.hd st).is = false ∧ 1 < st.length then ⟨st.tail, oi, oe, va⟩ else ⟨st, oi, oe, va⟩ := by unfold Ex.pdf; rw [if_neg c1, if_neg c2]
      cases his : (Ex.hd st).is with
      | true =>
        have e1 : Ex.pdf ⟨st, oi, oe, va⟩ = ⟨st, oi, oe, va⟩ := by rw [e0, if_neg (fun h => by rw [his] at h; cases h.1)]
        rw [e1]
        rw [his] at HL
        generalize (Ex.hd st).lv = lv at *
        generalize (Ex.hd st).ov = ov at *
        clear e0 e1 hok his
        go_enter Try.func45, Try.ntmps45
        go_wp2_with fail
        refine HL.out.mono ?_
        rintro e w3 ⟨rfl, hb3⟩
        have hB3 := HB.out.below hb3
        have hA3 := HA.out.below hb3
        obtain ⟨r0, r1, r2, r3⟩ := hB3.c
        obtain ⟨s0, s1, s2, s3⟩ := hB3.qc
        have sf0 := hB3.qf 0
        have sf1 := hB3.qf 1
        have sf2 := hB3.qf 2
        have sf3 := hB3.qf 3
        have HB3 := hide hB3
        have HA3 := hide hA3
        clear hB3 hA3 hb3 HL
        go_wp2
        exact bodyPost_ret (results1 Try.results45 _ _ _ (w.heap.size + 1) _ rfl (way_out HB3.out g n cap oi oe va)) rfl ⟨g, n, cap, rfl, (HA3.out).set4' ((HA3.out).notWay (HB3.out).hq) g n cap oi oe va, way_bel HB3.out g n cap oi oe va⟩
      | false =>
        rw [his] at HL
        by_cases hl1 : 1 < st.length
        · have e1 : Ex.pdf ⟨st, oi, oe, va⟩ = ⟨st.tail, oi, oe, va⟩ := by rw [e0, if_pos ⟨his, hl1⟩]
          rw [e1]
          obtain ⟨m, rfl⟩ : ∃ m, n = m + 1 := ⟨n - 1, by omega⟩
          have hm1 : (1 : Int) < ((m + 1 : Nat) : Int) := by omega
          generalize (Ex.hd st).lv = lv at *
          generalize (Ex.hd st).ov = ov at *
          clear e0 e1 hok his
          go_enter Try.func45, Try.ntmps45
          go_wp2_with fail
          refine HL.out.mono ?_
          rintro e w3 ⟨rfl, hb3⟩
          have hB3 := HB.out.below hb3
          have hA3 := HA.out.below hb3
          obtain ⟨r0, r1, r2, r3⟩ := hB3.c
          have HLS := hide (rless_any hA3 rfl oi oe va)
          have HB3 := hide hB3
          have HA3 := hide hA3
          clear hB3 hA3 hb3 HL
          go_wp2_with fail
          refine HLS.out.mono ?_
          rintro e w4 ⟨rfl, hb4⟩
          have hB4 := HB3.out.below hb4
          have hA4 := (HA3.out.below hb4).pop rfl
          obtain ⟨t0, t1, t2, t3⟩ := hB4.c
          have tf0 := hB4.f 0
          have tf1 := hB4.f 1
          have tf2 := hB4.f 2
          have tf3 := hB4.f 3
          have hA5 := hA4.set4' (hA4.notWay hB4.hp) g m cap oi oe va
          have hB5 := hB4.set4' g m cap oi oe va
          obtain ⟨s0, s1, s2, s3⟩ := hB4.qc
          have sf0 := hB4.qf 0
          have sf1 := hB4.qf 1
          have sf2 := hB4.qf 2
          have sf3 := hB4.qf 3
          have HB5 := hide hB5
          have HA5 := hide hA5
          clear hB4 hA4 hB5 hA5 hb4 HLS
          go_wp2
          exact bodyPost_ret (results1 Try.results45 _ _ _ (w.heap.size + 1) _ rfl (way_out HB5.out g m cap oi oe va)) rfl ⟨g, m, cap, rfl, (HA5.out).set4' ((HA5.out).notWay (HB5.out).hq) g m cap oi oe va, way_bel HB5.out g m cap oi oe va⟩
        · have e1 : Ex.pdf ⟨st, oi, oe, va⟩ = ⟨st, oi, oe, va⟩ := by rw [e0, if_neg (fun h => hl1 h.2)]
          rw [e1]
          have hm1 : ¬ (1 : Int) < (n : Int) := by omega
          generalize (Ex.hd st).lv = lv at *
          generalize (Ex.hd st).ov = ov at *
          clear e0 e1 hok his
          go_enter Try.func45, Try.ntmps45
          go_wp2_with fail
          refine HL.out.mono ?_
          rintro e w3 ⟨rfl, hb3⟩
          have hB3 := HB.out.below hb3
          have hA3 := HA.out.below hb3
          obtain ⟨r0, r1, r2, r3⟩ := hB3.c
          obtain ⟨s0, s1, s2, s3⟩ := hB3.qc
          have sf0 := hB3.qf 0
          have sf1 := hB3.qf 1
          have sf2 := hB3.qf 2
          have sf3 := hB3.qf 3
          have HB3 := hide hB3
          have HA3 := hide hA3
          clear hB3 hA3 hb3 HL
          go_wp2
          exact bodyPost_ret (results1 Try.results45 _ _ _ (w.heap.size + 1) _ rfl (way_out HB3.out g n cap oi oe va)) rfl ⟨g, n, cap, rfl, (HA3.out).set4' ((HA3.out).notWay (HB3.out).hq) g n cap oi oe va, way_bel HB3.out g n cap oi oe va⟩
end Go.Proofs.Ythohbiklnknofaa
