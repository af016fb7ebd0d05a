import Derived.Test.YtfcoebbblfcdoaaGreatDoorZ32
import Derived.Deep.RegionLaw
/- The document's behind: what is kept behind a place. -/
namespace Go.Proofs.YtfcoebbblfcdoaaGreatDoor
open Go.RowKit
set_option linter.unusedVariables false
set_option maxHeartbeats 2000000
set_option maxRecDepth 100000
theorem rbeh_other {w : World} {st : List Ex.Ent} {g n cap : Nat} {oi oe va : Nat} {b : Int} {k : Nat} (h : WA w st g n cap) (hok : Ex.Ok b ⟨st, oi, oe, va⟩ k) (hb0 : 0 <= b) (hb1 : b <= 1) (hk : k <= 1000) (ao : Option Addr) (nc capc : Nat) (c : List Int) (hr : Row .i64 w ao nc capc c) (hnc : nc <= 300) (i : Nat) (hi : i < nc) (x : Int) (hx : c.getD i 0 = x) (hoth : ¬ x = 17 /\ ¬ x = 15 /\ ¬ x = 18 /\ ¬ x = 16 /\ ¬ x = 19 /\ ¬ x = 23 /\ ¬ x = 20 /\ ¬ x = 21 /\ ¬ x = 22) :
  Calls Tryz.prog 55 #[.agg #[.slice (some ⟨g, 0, none⟩) n cap, .int .i64 (oi : Int), .int .i64 (oe : Int), .int .i64 (va : Int)], .slice ao nc capc, .int .i64 (i : Int)] w fun e w' => ∃ g' n' cap', e = .returned (.agg #[.slice (some ⟨g', 0, none⟩) n' cap', .int .i64 (((⟨st, oi, oe, va⟩ : Ex.St)).oi : Int), .int .i64 (((⟨st, oi, oe, va⟩ : Ex.St)).oe : Int), .int .i64 (((⟨st, oi, oe, va⟩ : Ex.St)).va : Int)]) /\ WA w' ((⟨st, oi, oe, va⟩ : Ex.St)).st g' n' cap' /\ Below w.heap.size w w' := by
 have hlo := hok.ch.lo
 have hhi := hok.ch.hi (by omega)
 have hpos := hok.ch.pos
 have hcl := hok.ch.len
 have hkoi := hok.oi
 have hkoe := hok.oe
 have hkva : va <= 126 := by have h1 : va = Ex.cn st := hok.va; have h2 := Ex.cn_le st; simp only at hcl hhi hlo; omega
 simp only at hlo hhi hpos hcl hkoi hkoe
 have hln := h.len
 have hn0 : 0 < n := by omega
 have hn2 : n <= 200 := by omega
 obtain ⟨W, hW⟩ : ∃ W, (w.alloc (.cells #[.slice (some ⟨g, 0, none⟩) n cap, .int .i64 (oi : Int), .int .i64 (oe : Int), .int .i64 (va : Int)] 94)).alloc (.cells #[.slice none 0 0, .int .i64 0, .int .i64 0, .int .i64 0] 94) = W := ⟨_, rfl⟩
 have hB : WB w W w.heap.size (w.heap.size + 1) g n cap (oi : Int) (oe : Int) (va : Int) := by rw [<- hW]; exact WB.begin w g n cap oi oe va
 have hA : WA W st g n cap := h.below hB.bel
 have HA := hide hA
 have HB := hide hB
 have hfl := rfield_lv
 have hfo := rfield_ov
 have hfi := rfield_is
 have hrW := hr.below hB.bel
 have HRW := hide hrW
 obtain ⟨cb, off, rfl, hbl, hcc⟩ := hrW.cells (by omega)
 have ck : W.cell? ⟨cb, off + i, none⟩ = some (.int .i64 (c.getD i 0)) := hcc i (by rw [hr.len]; exact hi)
 rw [hx] at ck
 have hin : (i : Int) < (nc : Int) := by omega
 obtain ⟨p0, p1, p2, p3⟩ := hB.c
 obtain ⟨q0, q1, q2, q3⟩ := hB.qc
 have pf1 := hB.f 1
 have pf2 := hB.f 2
 have pf3 := hB.f 3
 have qf0 := hB.qf 0
 have qf1 := hB.qf 1
 have qf2 := hB.qf 2
 have qf3 := hB.qf 3
 have npq : ¬ w.heap.size + 1 = w.heap.size := by omega
 have npq2 : ¬ w.heap.size = w.heap.size + 1 := by omega
 obtain ⟨o1, o2, o3, o4, o5, o6, o7, o8, o9⟩ := hoth
 have z1 : (x == 17) = false := beq_false_of_ne o1
 have z2 : (x == 15) = false := beq_false_of_ne o2
 have z3 : (x == 18) = false := beq_false_of_ne o3
 have z4 : (x == 16) = false := beq_false_of_ne o4
 have z5 : (x == 19) = false := beq_false_of_ne o5
 have z6 : (x == 23) = false := beq_false_of_ne o6
 have z7 : (x == 20) = false := beq_false_of_ne o7
 have z8 : (x == 21) = false := beq_false_of_ne o8
 have z9 : (x == 22) = false := beq_false_of_ne o9
 clear hcc hrW hr hok h hA hB hx o1 o2 o3 o4 o5 o6 o7 o8 o9
 go_enter Tryz.func55, Tryz.ntmps55
 go_wp2
 exact bodyPost_ret (results1 Tryz.results55 _ _ _ (w.heap.size + 1) _ rfl (way_out HB.out g n cap oi oe va)) rfl ⟨g, n, cap, rfl, (HA.out).set4' ((HA.out).notWay (HB.out).hq) g n cap oi oe va, way_bel HB.out g n cap oi oe va⟩
theorem rbeh_pdf {w : World} {st : List Ex.Ent} {g n cap : Nat} {oi oe va : Nat} {b : Int} {k : Nat} (h : WA w st g n cap) (hok : Ex.Ok b ⟨st, oi, oe, va⟩ k) (hb0 : 0 <= b) (hb1 : b <= 1) (hk : k <= 1000) (ao : Option Addr) (nc capc : Nat) (c : List Int) (hr : Row .i64 w ao nc capc c) (hnc : nc <= 300) (i : Nat) (hi : i < nc) (hx : c.getD i 0 = 19) :
  Calls Tryz.prog 55 #[.agg #[.slice (some ⟨g, 0, none⟩) n cap, .int .i64 (oi : Int), .int .i64 (oe : Int), .int .i64 (va : Int)], .slice ao nc capc, .int .i64 (i : Int)] w fun e w' => ∃ g' n' cap', e = .returned (.agg #[.slice (some ⟨g', 0, none⟩) n' cap', .int .i64 ((Ex.pdf ⟨st, oi, oe, va⟩).oi : Int), .int .i64 ((Ex.pdf ⟨st, oi, oe, va⟩).oe : Int), .int .i64 ((Ex.pdf ⟨st, oi, oe, va⟩).va : Int)]) /\ WA w' (Ex.pdf ⟨st, oi, oe, va⟩).st g' n' cap' /\ Below w.heap.size w w' := by
 have hlo := hok.ch.lo
 have hhi := hok.ch.hi (by omega)
 have hpos := hok.ch.pos
 have hcl := hok.ch.len
 have hkoi := hok.oi
 have hkoe := hok.oe
 have hkva : va <= 126 := by have h1 : va = Ex.cn st := hok.va; have h2 := Ex.cn_le st; simp only at hcl hhi hlo; omega
 simp only at hlo hhi hpos hcl hkoi hkoe
 have hln := h.len
 have hn0 : 0 < n := by omega
 have hn2 : n <= 200 := by omega
 obtain ⟨W, hW⟩ : ∃ W, (w.alloc (.cells #[.slice (some ⟨g, 0, none⟩) n cap, .int .i64 (oi : Int), .int .i64 (oe : Int), .int .i64 (va : Int)] 94)).alloc (.cells #[.slice none 0 0, .int .i64 0, .int .i64 0, .int .i64 0] 94) = W := ⟨_, rfl⟩
 have hB : WB w W w.heap.size (w.heap.size + 1) g n cap (oi : Int) (oe : Int) (va : Int) := by rw [<- hW]; exact WB.begin w g n cap oi oe va
 have hA : WA W st g n cap := h.below hB.bel
 have HA := hide hA
 have HB := hide hB
 have hfl := rfield_lv
 have hfo := rfield_ov
 have hfi := rfield_is
 have hrW := hr.below hB.bel
 have HRW := hide hrW
 obtain ⟨cb, off, rfl, hbl, hcc⟩ := hrW.cells (by omega)
 have ck : W.cell? ⟨cb, off + i, none⟩ = some (.int .i64 (c.getD i 0)) := hcc i (by rw [hr.len]; exact hi)
 rw [hx] at ck
 have hin : (i : Int) < (nc : Int) := by omega
 obtain ⟨p0, p1, p2, p3⟩ := hB.c
 obtain ⟨q0, q1, q2, q3⟩ := hB.qc
 have pf1 := hB.f 1
 have pf2 := hB.f 2
 have pf3 := hB.f 3
 have qf0 := hB.qf 0
 have qf1 := hB.qf 1
 have qf2 := hB.qf 2
 have qf3 := hB.qf 3
 have npq : ¬ w.heap.size + 1 = w.heap.size := by omega
 have npq2 : ¬ w.heap.size = w.heap.size + 1 := by omega
 have HL := hide (rlast_any hA hn0 oi oe va)
 clear hcc hrW hr h hB hx
 by_cases c1 : 0 < oi
 ·have e1 : Ex.pdf ⟨st, oi, oe, va⟩ = ⟨st, oi, oe, va⟩ := by unfold Ex.pdf; rw [if_pos c1]
  rw [e1]
  have c1' : (0 : Int) < (oi : Int) := by omega
  clear e1 hok HL
  go_enter Tryz.func55, Tryz.ntmps55
  go_wp2
  exact bodyPost_ret (results1 Tryz.results55 _ _ _ (w.heap.size + 1) _ rfl (way_out HB.out g n cap oi oe va)) rfl ⟨g, n, cap, rfl, (HA.out).set4' ((HA.out).notWay (HB.out).hq) g n cap oi oe va, way_bel HB.out g n cap oi oe va⟩
 ·have c1' : ¬ (0 : Int) < (oi : Int) := by omega
  by_cases c2 : 0 < oe
  ·have e1 : Ex.pdf ⟨st, oi, oe, va⟩ = ⟨st, oi, oe - 1, va⟩ := by unfold Ex.pdf; rw [if_neg c1, if_pos c2]
   rw [e1]
   have c2' : (0 : Int) < (oe : Int) := by omega
   have e2 : ((oe - 1 : Nat) : Int) = (oe : Int) - 1 := by omega
   have HB2 := hide (HB.out.setOe ((oe : Int) - 1))
   have HA2 := hide (HA.out.other (p := w.heap.size) (j := 2) (v := .int .i64 ((oe : Int) - 1)) (HA.out.notWay HB.out.hp))
   have HE := hide e2
   clear e1 hok HL e2
   go_enter Tryz.func55, Tryz.ntmps55
   go_wp2
   exact bodyPost_ret (results1 Tryz.results55 _ _ _ (w.heap.size + 1) _ rfl (way_out HB2.out g n cap oi ((oe : Int) - 1) va)) rfl ⟨g, n, cap, by rw [HE.out], (HA2.out).set4' ((HA2.out).notWay (HB2.out).hq) g n cap oi ((oe : Int) - 1) va, way_bel HB2.out g n cap oi ((oe : Int) - 1) va⟩
  ·have c2' : ¬ (0 : Int) < (oe : Int) := by omega
   have e0 : Ex.pdf ⟨st, oi, oe, va⟩ = if (Ex.hd st).is = false /\ 1 < st.length then ⟨st.tail, oi, oe, va⟩ else ⟨st, oi, oe, va⟩ := by unfold Ex.pdf; rw [if_neg c1, if_neg c2]
   cases his : (Ex.hd st).is with
   | true =>
    have e1 : Ex.pdf ⟨st, oi, oe, va⟩ = ⟨st, oi, oe, va⟩ := by rw [e0, if_neg (fun h => by rw [his] at h; cases h.1)]
    rw [e1]
    rw [his] at HL
    generalize (Ex.hd st).lv = lv at *
    generalize (Ex.hd st).ov = ov at *
    clear e0 e1 hok his
    go_enter Tryz.func55, Tryz.ntmps55
    go_wp2_with fail
    refine HL.out.mono ?_
    rintro e w3 ⟨rfl, hb3⟩
    have hB3 := HB.out.below hb3
    have hA3 := HA.out.below hb3
    obtain ⟨r0, r1, r2, r3⟩ := hB3.c
    obtain ⟨s0, s1, s2, s3⟩ := hB3.qc
    have sf0 := hB3.qf 0
    have sf1 := hB3.qf 1
    have sf2 := hB3.qf 2
    have sf3 := hB3.qf 3
    have HB3 := hide hB3
    have HA3 := hide hA3
    clear hB3 hA3 hb3 HL
    go_wp2
    exact bodyPost_ret (results1 Tryz.results55 _ _ _ (w.heap.size + 1) _ rfl (way_out HB3.out g n cap oi oe va)) rfl ⟨g, n, cap, rfl, (HA3.out).set4' ((HA3.out).notWay (HB3.out).hq) g n cap oi oe va, way_bel HB3.out g n cap oi oe va⟩
   | false =>
    rw [his] at HL
    by_cases hl1 : 1 < st.length
    ·have e1 : Ex.pdf ⟨st, oi, oe, va⟩ = ⟨st.tail, oi, oe, va⟩ := by rw [e0, if_pos ⟨his, hl1⟩]
     rw [e1]
     obtain ⟨m, rfl⟩ : ∃ m, n = m + 1 := ⟨n - 1, by omega⟩
     have hm1 : (1 : Int) < ((m + 1 : Nat) : Int) := by omega
     generalize (Ex.hd st).lv = lv at *
     generalize (Ex.hd st).ov = ov at *
     clear e0 e1 hok his
     go_enter Tryz.func55, Tryz.ntmps55
     go_wp2_with fail
     refine HL.out.mono ?_
     rintro e w3 ⟨rfl, hb3⟩
     have hB3 := HB.out.below hb3
     have hA3 := HA.out.below hb3
     obtain ⟨r0, r1, r2, r3⟩ := hB3.c
     have HLS := hide (rless_any hA3 rfl oi oe va)
     have HB3 := hide hB3
     have HA3 := hide hA3
     clear hB3 hA3 hb3 HL
     go_wp2_with fail
     refine HLS.out.mono ?_
     rintro e w4 ⟨rfl, hb4⟩
     have hB4 := HB3.out.below hb4
     have hA4 := (HA3.out.below hb4).pop rfl
     obtain ⟨t0, t1, t2, t3⟩ := hB4.c
     have tf0 := hB4.f 0
     have tf1 := hB4.f 1
     have tf2 := hB4.f 2
     have tf3 := hB4.f 3
     have hA5 := hA4.set4' (hA4.notWay hB4.hp) g m cap oi oe va
     have hB5 := hB4.set4' g m cap oi oe va
     obtain ⟨s0, s1, s2, s3⟩ := hB4.qc
     have sf0 := hB4.qf 0
     have sf1 := hB4.qf 1
     have sf2 := hB4.qf 2
     have sf3 := hB4.qf 3
     have HB5 := hide hB5
     have HA5 := hide hA5
     clear hB4 hA4 hB5 hA5 hb4 HLS
     go_wp2
     exact bodyPost_ret (results1 Tryz.results55 _ _ _ (w.heap.size + 1) _ rfl (way_out HB5.out g m cap oi oe va)) rfl ⟨g, m, cap, rfl, (HA5.out).set4' ((HA5.out).notWay (HB5.out).hq) g m cap oi oe va, way_bel HB5.out g m cap oi oe va⟩
    ·have e1 : Ex.pdf ⟨st, oi, oe, va⟩ = ⟨st, oi, oe, va⟩ := by rw [e0, if_neg (fun h => hl1 h.2)]
     rw [e1]
     have hm1 : ¬ (1 : Int) < (n : Int) := by omega
     generalize (Ex.hd st).lv = lv at *
     generalize (Ex.hd st).ov = ov at *
     clear e0 e1 hok his
     go_enter Tryz.func55, Tryz.ntmps55
     go_wp2_with fail
     refine HL.out.mono ?_
     rintro e w3 ⟨rfl, hb3⟩
     have hB3 := HB.out.below hb3
     have hA3 := HA.out.below hb3
     obtain ⟨r0, r1, r2, r3⟩ := hB3.c
     obtain ⟨s0, s1, s2, s3⟩ := hB3.qc
     have sf0 := hB3.qf 0
     have sf1 := hB3.qf 1
     have sf2 := hB3.qf 2
     have sf3 := hB3.qf 3
     have HB3 := hide hB3
     have HA3 := hide hA3
     clear hB3 hA3 hb3 HL
     go_wp2
     exact bodyPost_ret (results1 Tryz.results55 _ _ _ (w.heap.size + 1) _ rfl (way_out HB3.out g n cap oi oe va)) rfl ⟨g, n, cap, rfl, (HA3.out).set4' ((HA3.out).notWay (HB3.out).hq) g n cap oi oe va, way_bel HB3.out g n cap oi oe va⟩
end Go.Proofs.YtfcoebbblfcdoaaGreatDoor

/- The document's behind, at a PDI, at embeddings and at initiators. -/
namespace Go.Proofs.YtfcoebbblfcdoaaGreatDoor
open Go.RowKit
set_option linter.unusedVariables false
set_option maxHeartbeats 2000000
set_option maxRecDepth 100000
theorem rbeh_pdi {w : World} {st : List Ex.Ent} {g n cap : Nat} {oi oe va : Nat} {b : Int} {k : Nat} (h : WA w st g n cap) (hok : Ex.Ok b ⟨st, oi, oe, va⟩ k) (hb0 : 0 <= b) (hb1 : b <= 1) (hk : k <= 1000) (ao : Option Addr) (nc capc : Nat) (c : List Int) (hr : Row .i64 w ao nc capc c) (hnc : nc <= 300) (i : Nat) (hi : i < nc) (hx : c.getD i 0 = 23) :
  Calls Tryz.prog 55 #[.agg #[.slice (some ⟨g, 0, none⟩) n cap, .int .i64 (oi : Int), .int .i64 (oe : Int), .int .i64 (va : Int)], .slice ao nc capc, .int .i64 (i : Int)] w fun e w' => ∃ g' n' cap', e = .returned (.agg #[.slice (some ⟨g', 0, none⟩) n' cap', .int .i64 ((Ex.pdi ⟨st, oi, oe, va⟩).oi : Int), .int .i64 ((Ex.pdi ⟨st, oi, oe, va⟩).oe : Int), .int .i64 ((Ex.pdi ⟨st, oi, oe, va⟩).va : Int)]) /\ WA w' (Ex.pdi ⟨st, oi, oe, va⟩).st g' n' cap' /\ Below w.heap.size w w' := by
 have hlo := hok.ch.lo
 have hhi := hok.ch.hi (by omega)
 have hpos := hok.ch.pos
 have hcl := hok.ch.len
 have hkoi := hok.oi
 have hkoe := hok.oe
 have hkva : va <= 126 := by have h1 : va = Ex.cn st := hok.va; have h2 := Ex.cn_le st; simp only at hcl hhi hlo; omega
 simp only at hlo hhi hpos hcl hkoi hkoe
 have hln := h.len
 have hn0 : 0 < n := by omega
 have hn2 : n <= 200 := by omega
 obtain ⟨W, hW⟩ : ∃ W, (w.alloc (.cells #[.slice (some ⟨g, 0, none⟩) n cap, .int .i64 (oi : Int), .int .i64 (oe : Int), .int .i64 (va : Int)] 94)).alloc (.cells #[.slice none 0 0, .int .i64 0, .int .i64 0, .int .i64 0] 94) = W := ⟨_, rfl⟩
 have hB : WB w W w.heap.size (w.heap.size + 1) g n cap (oi : Int) (oe : Int) (va : Int) := by rw [<- hW]; exact WB.begin w g n cap oi oe va
 have hA : WA W st g n cap := h.below hB.bel
 have HA := hide hA
 have HB := hide hB
 have hfl := rfield_lv
 have hfo := rfield_ov
 have hfi := rfield_is
 have hrW := hr.below hB.bel
 have HRW := hide hrW
 obtain ⟨cb, off, rfl, hbl, hcc⟩ := hrW.cells (by omega)
 have ck : W.cell? ⟨cb, off + i, none⟩ = some (.int .i64 (c.getD i 0)) := hcc i (by rw [hr.len]; exact hi)
 rw [hx] at ck
 have hin : (i : Int) < (nc : Int) := by omega
 obtain ⟨p0, p1, p2, p3⟩ := hB.c
 obtain ⟨q0, q1, q2, q3⟩ := hB.qc
 have pf1 := hB.f 1
 have pf2 := hB.f 2
 have pf3 := hB.f 3
 have qf0 := hB.qf 0
 have qf1 := hB.qf 1
 have qf2 := hB.qf 2
 have qf3 := hB.qf 3
 have npq : ¬ w.heap.size + 1 = w.heap.size := by omega
 have npq2 : ¬ w.heap.size = w.heap.size + 1 := by omega
 clear hcc hrW hr h hB hx
 by_cases c1 : 0 < oi
 ·have e1 : Ex.pdi ⟨st, oi, oe, va⟩ = ⟨st, oi - 1, oe, va⟩ := by unfold Ex.pdi; rw [if_pos c1]
  rw [e1]
  have c1' : (0 : Int) < (oi : Int) := by omega
  have e2 : ((oi - 1 : Nat) : Int) = (oi : Int) - 1 := by omega
  have HB2 := hide (HB.out.setOi ((oi : Int) - 1))
  have HA2 := hide (HA.out.other (p := w.heap.size) (j := 1) (v := .int .i64 ((oi : Int) - 1)) (HA.out.notWay HB.out.hp))
  have HE := hide e2
  clear e1 hok e2
  go_enter Tryz.func55, Tryz.ntmps55
  go_wp2
  exact bodyPost_ret (results1 Tryz.results55 _ _ _ (w.heap.size + 1) _ rfl (way_out HB2.out g n cap ((oi : Int) - 1) oe va)) rfl ⟨g, n, cap, by rw [HE.out], (HA2.out).set4' ((HA2.out).notWay (HB2.out).hq) g n cap ((oi : Int) - 1) oe va, way_bel HB2.out g n cap ((oi : Int) - 1) oe va⟩
 ·have c1' : ¬ (0 : Int) < (oi : Int) := by omega
  by_cases c2 : va = 0
  ·have e1 : Ex.pdi ⟨st, oi, oe, va⟩ = ⟨st, oi, oe, va⟩ := by unfold Ex.pdi; rw [if_neg c1, if_pos c2]
   rw [e1]
   have c2' : ¬ (0 : Int) < (va : Int) := by omega
   clear e1 hok c2
   go_enter Tryz.func55, Tryz.ntmps55
   go_wp2
   exact bodyPost_ret (results1 Tryz.results55 _ _ _ (w.heap.size + 1) _ rfl (way_out HB.out g n cap oi oe va)) rfl ⟨g, n, cap, rfl, (HA.out).set4' ((HA.out).notWay (HB.out).hq) g n cap oi oe va, way_bel HB.out g n cap oi oe va⟩
  ·have c2' : (0 : Int) < (va : Int) := by omega
   have e1 : Ex.pdi ⟨st, oi, oe, va⟩ = ⟨Ex.pi st, oi, 0, va - 1⟩ := by unfold Ex.pdi; rw [if_neg c1, if_neg c2]
   rw [e1]
   have hcn : 0 < Ex.cn st := by have h1 : va = Ex.cn st := hok.va; omega
   have HE := hide (show ((va - 1 : Nat) : Int) = (va : Int) - 1 from by omega)
   have HB2 := hide (HB.out.setOe 0)
   have HA2 := hide (HA.out.other (p := w.heap.size) (j := 2) (v := .int .i64 0) (HA.out.notWay HB.out.hp))
   have HC := hide hcn
   obtain ⟨R, hR⟩ : ∃ R, Ex.pi st = R := ⟨_, rfl⟩
   rw [hR]
   have HR := hide hR
   have HLN := hide hln
   clear e1 hok hcn hR hln hpos hcl hlo hhi
   go_enter Tryz.func55, Tryz.ntmps55
   go_wp2_with (go_at_call 56; fail)
   clear p0 p1 p2 p3 q0 q1 q2 q3 pf1 pf2 pf3 qf0 qf1 qf2 qf3 ck
   go_loopg [] n (fun k wr => ∃ l : List Ex.Ent, Hid (l.length = k) /\ Hid (Ex.pi l = R) /\ Hid (0 < Ex.cn l) /\ Hid (WB w wr w.heap.size (w.heap.size + 1) g k cap oi 0 va) /\ Hid (WA wr l g k cap))
   case atStart => exact ⟨st, HLN, HR, HC, HB2, HA2⟩
   case round =>
    obtain ⟨l, hl, hR, hC, hB, hA⟩ := hrel
    have hpos : 0 < l.length := cn_pos hC.out
    have hlk := hl.out
    subst hlk
    obtain ⟨m, hm⟩ : ∃ m, l.length = m + 1 := ⟨l.length - 1, by omega⟩
    rw [hm] at hB hA
    have HL := hide (rlast_any hA.out (by omega) oi 0 va)
    have HM := hide hm
    have HMM : Hid (m <= l.length) := hide (by omega)
    have hph := pi_head hpos
    obtain ⟨r0, r1, r2, r3⟩ := hB.out.c
    clear hl hpos hm
    rcases hph with ⟨hi, hp⟩ | ⟨hi, hp, hc⟩
    ·rw [hi] at HL
     rw [hR.out] at hp
     have HP := hide hp
     generalize (Ex.hd l).lv = lv at *
     generalize (Ex.hd l).ov = ov at *
     clear hp hi
     go_wp2_with fail
     refine HL.out.mono ?_
     rintro e w3 ⟨rfl, hb3⟩
     have hB3 := hB.out.below hb3
     have hA3 := hA.out.below hb3
     have HLS := hide (rless_any hA3 rfl oi 0 va)
     obtain ⟨s0, s1, s2, s3⟩ := hB3.c
     have HB3 := hide hB3
     have HA3 := hide hA3
     clear hB3 hA3 hb3 HL r0 r1 r2 r3
     go_wp2_with fail
     refine HLS.out.mono ?_
     rintro e w4 ⟨rfl, hb4⟩
     have hB4 := HB3.out.below hb4
     have hA4 := (HA3.out.below hb4).pop rfl
     have hA5 := hA4.set4' (hA4.notWay hB4.hp) g m cap oi 0 va
     have hB5 := hB4.set4' g m cap oi 0 va
     obtain ⟨W5, hW5⟩ : ∃ W5, (((w4.setCell ⟨w.heap.size, 0, none⟩ (.slice (some ⟨g, 0, none⟩) m cap)).setCell ⟨w.heap.size, 1, none⟩ (.int .i64 (oi : Int))).setCell ⟨w.heap.size, 2, none⟩ (.int .i64 0)).setCell ⟨w.heap.size, 3, none⟩ (.int .i64 (va : Int)) = W5 := ⟨_, rfl⟩
     rw [hW5] at hB5 hA5
     have hB6 := hB5.setVa ((va : Int) - 1)
     have hA6 := hA5.other (p := w.heap.size) (j := 3) (v := .int .i64 ((va : Int) - 1)) (hA5.notWay hB5.hp)
     obtain ⟨W6, hW6⟩ : ∃ W6, W5.setCell ⟨w.heap.size, 3, none⟩ (.int .i64 ((va : Int) - 1)) = W6 := ⟨_, rfl⟩
     rw [hW6] at hB6 hA6
     have HB6 := hide hB6
     have HA6 := hide hA6
     obtain ⟨t0, t1, t2, t3⟩ := hB4.c
     have tf0 := hB4.f 0
     have tf1 := hB4.f 1
     have tf2 := hB4.f 2
     have tf3 := hB4.f 3
     obtain ⟨_, _, _, v3⟩ := hB5.c
     have vf3 := hB5.f 3
     obtain ⟨x0, x1, x2, x3⟩ := hB6.c
     obtain ⟨y0, y1, y2, y3⟩ := hB6.qc
     have yf0 := hB6.qf 0
     have yf1 := hB6.qf 1
     have yf2 := hB6.qf 2
     have yf3 := hB6.qf 3
     clear hB4 hA4 hB5 hA5 hB6 hA6 hb4 HLS s0 s1 s2 s3
     go_wp2
     exact bodyPost_ret (results1 Tryz.results55 _ _ _ (w.heap.size + 1) _ rfl (way_out HB6.out g m cap oi 0 ((va : Int) - 1))) rfl ⟨g, m, cap, by rw [HE.out]; rfl, by rw [HP.out]; exact (HA6.out).set4' ((HA6.out).notWay (HB6.out).hq) g m cap oi 0 ((va : Int) - 1), way_bel HB6.out g m cap oi 0 ((va : Int) - 1)⟩
    ·rw [hi] at HL
     rw [hR.out] at hp
     have HP := hide hp.symm
     have HCN := hide (show 0 < Ex.cn l.tail from by rw [hc]; exact hC.out)
     generalize (Ex.hd l).lv = lv at *
     generalize (Ex.hd l).ov = ov at *
     clear hp hi hc
     go_wp2_with fail
     refine HL.out.mono ?_
     rintro e w3 ⟨rfl, hb3⟩
     have hB3 := hB.out.below hb3
     have hA3 := hA.out.below hb3
     have HLS := hide (rless_any hA3 rfl oi 0 va)
     obtain ⟨s0, s1, s2, s3⟩ := hB3.c
     have HB3 := hide hB3
     have HA3 := hide hA3
     clear hB3 hA3 hb3 HL r0 r1 r2 r3
     go_wp2_with fail
     refine HLS.out.mono ?_
     rintro e w4 ⟨rfl, hb4⟩
     have hB4 := HB3.out.below hb4
     have hA4 := (HA3.out.below hb4).pop rfl
     have HA5 := hide (hA4.set4' (hA4.notWay hB4.hp) g m cap oi 0 va)
     have HB5 := hide (hB4.set4' g m cap oi 0 va)
     obtain ⟨t0, t1, t2, t3⟩ := hB4.c
     obtain ⟨u0, u1, u2, u3⟩ := hB4.qc
     have tf0 := hB4.f 0
     have tf1 := hB4.f 1
     have tf2 := hB4.f 2
     have tf3 := hB4.f 3
     have uf0 := hB4.qf 0
     have uf1 := hB4.qf 1
     have uf2 := hB4.qf 2
     have uf3 := hB4.qf 3
     clear hB4 hA4 hb4 HLS s0 s1 s2 s3
     go_wp2
     go_roundg m
     case measure => have := HM.out; omega
     case rel => exact ⟨l.tail, hide (by rw [List.length_tail, HM.out]; rfl), HP, HCN, HB5, HA5⟩
end Go.Proofs.YtfcoebbblfcdoaaGreatDoor

/- The document's behind, at embeddings and at initiators. -/
namespace Go.Proofs.YtfcoebbblfcdoaaGreatDoor
open Go.RowKit
set_option linter.unusedVariables false
set_option maxHeartbeats 2000000
set_option maxRecDepth 100000
theorem radd_yes' {w : World} {st : List Ex.Ent} {g n cap : Nat} (h : WA w st g n cap) (hn : 0 < n) (hn2 : n <= 200) (zi zo va : Int) (hzi : zi = 0) (hzo : zo = 0) (o : Bool) (ov : Int) (is : Bool) (h0 : 0 <= (Ex.hd st).lv) (h1 : (Ex.hd st).lv <= 125) (hc : Ex.nl (Ex.hd st).lv o <= 125) :
  Calls Tryz.prog 85 #[.agg #[.slice (some ⟨g, 0, none⟩) n cap, .int .i64 zi, .int .i64 zo, .int .i64 va], .bool o, .int .i64 ov, .bool is] w fun e w' => ∃ g' cap', e = .returned (.tuple #[.agg #[.slice (some ⟨g', 0, none⟩) (n + 1) cap', .int .i64 zi, .int .i64 zo, .int .i64 va], .bool true]) /\ WA w' (⟨Ex.nl (Ex.hd st).lv o, ov, is⟩ :: st) g' (n + 1) cap' /\ Below w.heap.size w w' := by
 subst hzi hzo
 exact radd_yes h hn hn2 va o ov is h0 h1 hc
end Go.Proofs.YtfcoebbblfcdoaaGreatDoor

/- The document's behind, at embeddings and at initiators. -/
namespace Go.Proofs.YtfcoebbblfcdoaaGreatDoor
open Go.RowKit
set_option linter.unusedVariables false
set_option maxHeartbeats 2000000
set_option maxRecDepth 100000
theorem rbeh_17 {w : World} {st : List Ex.Ent} {g n cap : Nat} {oi oe va : Nat} {b : Int} {k : Nat} (h : WA w st g n cap) (hok : Ex.Ok b ⟨st, oi, oe, va⟩ k) (hb0 : 0 <= b) (hb1 : b <= 1) (hk : k <= 1000) (ao : Option Addr) (nc capc : Nat) (c : List Int) (hr : Row .i64 w ao nc capc c) (hnc : nc <= 300) (i : Nat) (hi : i < nc) (hx : c.getD i 0 = 17) :
  Calls Tryz.prog 55 #[.agg #[.slice (some ⟨g, 0, none⟩) n cap, .int .i64 (oi : Int), .int .i64 (oe : Int), .int .i64 (va : Int)], .slice ao nc capc, .int .i64 (i : Int)] w fun e w' => ∃ g' n' cap', e = .returned (.agg #[.slice (some ⟨g', 0, none⟩) n' cap', .int .i64 ((Ex.emb ⟨st, oi, oe, va⟩ 17).oi : Int), .int .i64 ((Ex.emb ⟨st, oi, oe, va⟩ 17).oe : Int), .int .i64 ((Ex.emb ⟨st, oi, oe, va⟩ 17).va : Int)]) /\ WA w' (Ex.emb ⟨st, oi, oe, va⟩ 17).st g' n' cap' /\ Below w.heap.size w w' := by
 have hlo := hok.ch.lo
 have hhi := hok.ch.hi (by omega)
 have hpos := hok.ch.pos
 have hcl := hok.ch.len
 have hkoi := hok.oi
 have hkoe := hok.oe
 have hkva : va <= 126 := by have h1 : va = Ex.cn st := hok.va; have h2 := Ex.cn_le st; simp only at hcl hhi hlo; omega
 simp only at hlo hhi hpos hcl hkoi hkoe
 have hln := h.len
 have hn0 : 0 < n := by omega
 have hn2 : n <= 200 := by omega
 obtain ⟨W, hW⟩ : ∃ W, (w.alloc (.cells #[.slice (some ⟨g, 0, none⟩) n cap, .int .i64 (oi : Int), .int .i64 (oe : Int), .int .i64 (va : Int)] 94)).alloc (.cells #[.slice none 0 0, .int .i64 0, .int .i64 0, .int .i64 0] 94) = W := ⟨_, rfl⟩
 have hB : WB w W w.heap.size (w.heap.size + 1) g n cap (oi : Int) (oe : Int) (va : Int) := by rw [<- hW]; exact WB.begin w g n cap oi oe va
 have hA : WA W st g n cap := h.below hB.bel
 have HA := hide hA
 have HB := hide hB
 have hfl := rfield_lv
 have hfo := rfield_ov
 have hfi := rfield_is
 have hrW := hr.below hB.bel
 have HRW := hide hrW
 obtain ⟨cb, off, rfl, hbl, hcc⟩ := hrW.cells (by omega)
 have ck : W.cell? ⟨cb, off + i, none⟩ = some (.int .i64 (c.getD i 0)) := hcc i (by rw [hr.len]; exact hi)
 rw [hx] at ck
 have hin : (i : Int) < (nc : Int) := by omega
 obtain ⟨p0, p1, p2, p3⟩ := hB.c
 obtain ⟨q0, q1, q2, q3⟩ := hB.qc
 have pf1 := hB.f 1
 have pf2 := hB.f 2
 have pf3 := hB.f 3
 have qf0 := hB.qf 0
 have qf1 := hB.qf 1
 have qf2 := hB.qf 2
 have qf3 := hB.qf 3
 have npq : ¬ w.heap.size + 1 = w.heap.size := by omega
 have npq2 : ¬ w.heap.size = w.heap.size + 1 := by omega
 have hAd : WA W.drew st g n cap := HA.out.below (Below.drew (Below.refl _ _))
 have hBd : WB w W.drew w.heap.size (w.heap.size + 1) g n cap (oi : Int) (oe : Int) (va : Int) := HB.out.below (Below.drew (Below.refl _ _))
 have HBd := hide hBd
 have HAd := hide hAd
 have hemb : Ex.emb ⟨st, oi, oe, va⟩ 17 = if Ex.can ⟨st, oi, oe, va⟩ true then ⟨⟨Ex.nl (Ex.hd st).lv true, 0, false⟩ :: st, oi, oe, va⟩ else if oi = 0 then ⟨st, oi, oe + 1, va⟩ else ⟨st, oi, oe, va⟩ := rfl
 clear hcc hrW hr h hB hx hA hBd
 cases hc : Ex.can ⟨st, oi, oe, va⟩ true with
 | true =>
  have e1 : Ex.emb ⟨st, oi, oe, va⟩ 17 = ⟨⟨Ex.nl (Ex.hd st).lv true, 0, false⟩ :: st, oi, oe, va⟩ := by rw [hemb, if_pos hc]
  rw [e1]
  obtain ⟨k1, k2, k3⟩ := Ex.can_true hc
  simp only at k1 k2 k3
  have HADD := hide (radd_yes' hAd hn0 hn2 (oi : Int) (oe : Int) (va : Int) (by omega) (by omega) true 0 false (by omega) hhi k1)
  clear e1 hemb hc k2 k3 hAd hok
  generalize Ex.nl (Ex.hd st).lv true = l at *
  go_enter Tryz.func55, Tryz.ntmps55
  go_upto_region 12 with fail
  clear q0 q1 q2 q3 pf1 pf2 pf3 qf0 qf1 qf2 qf3 hfl hfo hfi hlo hhi hpos hcl hkoi hn0 hn2 hln hW hbl hb0 hb1 npq npq2 HA HRW HB HAd
  first | (go_region_law (first
   | (go_simp; go_at_call 85; refine HADD.out.mono ?_; rintro e w5 ⟨g5, c5, rfl, hA5, hb5⟩; have hB5 := HBd.out.below hb5; have hA6 := hA5.set4' (hA5.notWay hB5.hp) g5 (n + 1) c5 oi oe va; have hB6 := hB5.set4' g5 (n + 1) c5 oi oe va; obtain ⟨W6, hW6⟩ : ∃ W6, (((w5.setCell ⟨w.heap.size, 0, none⟩ (.slice (some ⟨g5, 0, none⟩) (n + 1) c5)).setCell ⟨w.heap.size, 1, none⟩ (.int .i64 (oi : Int))).setCell ⟨w.heap.size, 2, none⟩ (.int .i64 (oe : Int))).setCell ⟨w.heap.size, 3, none⟩ (.int .i64 (va : Int)) = W6 := ⟨_, rfl⟩; rw [hW6] at hA6 hB6; have HA6 := hide hA6; have HB6 := hide hB6; obtain ⟨t0, t1, t2, t3⟩ := hB5.c; have tf0 := hB5.f 0; have tf1 := hB5.f 1; have tf2 := hB5.f 2; have tf3 := hB5.f 3; clear hA5 hB5 hA6 hB6 hb5; go_simp))) | fail
  all_goals
   have npq : ¬ w.heap.size + 1 = w.heap.size := by omega
   have npq2 : ¬ w.heap.size = w.heap.size + 1 := by omega
   obtain ⟨x0, x1, x2, x3⟩ := HB6.out.c
   obtain ⟨y0, y1, y2, y3⟩ := HB6.out.qc
   have yf0 := HB6.out.qf 0
   have yf1 := HB6.out.qf 1
   have yf2 := HB6.out.qf 2
   have yf3 := HB6.out.qf 3
   go_wp2
   exact bodyPost_ret (results1 Tryz.results55 _ _ _ (w.heap.size + 1) _ rfl (way_out HB6.out g5 (n + 1) c5 oi oe va)) rfl ⟨g5, (n + 1), c5, rfl, (HA6.out).set4' ((HA6.out).notWay (HB6.out).hq) g5 (n + 1) c5 oi oe va, way_bel HB6.out g5 (n + 1) c5 oi oe va⟩
 | false =>
  have hcf : ¬ Ex.can ⟨st, oi, oe, va⟩ true = true := by rw [hc]; decide
  rw [if_neg hcf] at hemb
  have HADD := hide (radd_no hAd hn0 oi oe va true 0 false (by omega) hhi hc)
  clear hc hcf hAd hok
  have HE := hide (show ((oe + 1 : Nat) : Int) = (oe : Int) + 1 from by omega)
  have HM := hide hemb
  clear hemb
  go_enter Tryz.func55, Tryz.ntmps55
  go_upto_region 12 with fail
  clear q0 q1 q2 q3 pf1 pf2 pf3 qf0 qf1 qf2 qf3 hfl hfo hfi hlo hhi hpos hcl hkoi hn0 hn2 hln hW hbl hb0 hb1 npq npq2 HA HRW HB
  first | (go_region_law (first
   | (go_simp; go_at_call 85; refine HADD.out.mono ?_; rintro e w5 ⟨rfl, hb5⟩; have hB5 := HBd.out.below hb5; have hA5 := HAd.out.below hb5; have hA6 := hA5.set4' (hA5.notWay hB5.hp) g n cap oi oe va; have hB6 := hB5.set4' g n cap oi oe va; obtain ⟨W6, hW6⟩ : ∃ W6, (((w5.setCell ⟨w.heap.size, 0, none⟩ (.slice (some ⟨g, 0, none⟩) n cap)).setCell ⟨w.heap.size, 1, none⟩ (.int .i64 (oi : Int))).setCell ⟨w.heap.size, 2, none⟩ (.int .i64 (oe : Int))).setCell ⟨w.heap.size, 3, none⟩ (.int .i64 (va : Int)) = W6 := ⟨_, rfl⟩; rw [hW6] at hA6 hB6; have HA6 := hide hA6; have HB6 := hide hB6; obtain ⟨t0, t1, t2, t3⟩ := hB5.c; have tf0 := hB5.f 0; have tf1 := hB5.f 1; have tf2 := hB5.f 2; have tf3 := hB5.f 3; clear hA5 hB5 hA6 hB6 hb5; go_simp))) | fail
  all_goals
   have npq : ¬ w.heap.size + 1 = w.heap.size := by omega
   have npq2 : ¬ w.heap.size = w.heap.size + 1 := by omega
   obtain ⟨x0, x1, x2, x3⟩ := HB6.out.c
   obtain ⟨y0, y1, y2, y3⟩ := HB6.out.qc
   have yf0 := HB6.out.qf 0
   have yf1 := HB6.out.qf 1
   have yf2 := HB6.out.qf 2
   have yf3 := HB6.out.qf 3
   have xf2 := HB6.out.f 2
   by_cases h0 : oi = 0
   ·have HE1 := hide (show Ex.emb ⟨st, oi, oe, va⟩ 17 = ⟨st, oi, oe + 1, va⟩ from by rw [HM.out, if_pos h0])
    have e0 : ((oi : Int) == 0) = true := beq_iff_eq.2 (by omega)
    have hB7 := HB6.out.setOe ((oe : Int) + 1)
    have hA7 := HA6.out.other (p := w.heap.size) (j := 2) (v := .int .i64 ((oe : Int) + 1)) (HA6.out.notWay HB6.out.hp)
    have HB7 := hide hB7
    have HA7 := hide hA7
    clear hB7 hA7 h0
    go_wp2
    exact bodyPost_ret (results1 Tryz.results55 _ _ _ (w.heap.size + 1) _ rfl (way_out HB7.out g n cap oi ((oe : Int) + 1) va)) rfl ⟨g, n, cap, by rw [HE1.out, HE.out], by rw [HE1.out]; exact (HA7.out).set4' ((HA7.out).notWay (HB7.out).hq) g n cap oi ((oe : Int) + 1) va, way_bel HB7.out g n cap oi ((oe : Int) + 1) va⟩
   ·have HE1 := hide (show Ex.emb ⟨st, oi, oe, va⟩ 17 = ⟨st, oi, oe, va⟩ from by rw [HM.out, if_neg h0])
    have e0 : ((oi : Int) == 0) = false := beq_false_of_ne (by omega)
    clear h0
    go_wp2
    exact bodyPost_ret (results1 Tryz.results55 _ _ _ (w.heap.size + 1) _ rfl (way_out HB6.out g n cap oi oe va)) rfl ⟨g, n, cap, by rw [HE1.out], by rw [HE1.out]; exact (HA6.out).set4' ((HA6.out).notWay (HB6.out).hq) g n cap oi oe va, way_bel HB6.out g n cap oi oe va⟩
end Go.Proofs.YtfcoebbblfcdoaaGreatDoor

/- The document's behind, at embeddings and at initiators. -/
namespace Go.Proofs.YtfcoebbblfcdoaaGreatDoor
open Go.RowKit
set_option linter.unusedVariables false
set_option maxHeartbeats 2000000
set_option maxRecDepth 100000
theorem rbeh_15 {w : World} {st : List Ex.Ent} {g n cap : Nat} {oi oe va : Nat} {b : Int} {k : Nat} (h : WA w st g n cap) (hok : Ex.Ok b ⟨st, oi, oe, va⟩ k) (hb0 : 0 <= b) (hb1 : b <= 1) (hk : k <= 1000) (ao : Option Addr) (nc capc : Nat) (c : List Int) (hr : Row .i64 w ao nc capc c) (hnc : nc <= 300) (i : Nat) (hi : i < nc) (hx : c.getD i 0 = 15) :
  Calls Tryz.prog 55 #[.agg #[.slice (some ⟨g, 0, none⟩) n cap, .int .i64 (oi : Int), .int .i64 (oe : Int), .int .i64 (va : Int)], .slice ao nc capc, .int .i64 (i : Int)] w fun e w' => ∃ g' n' cap', e = .returned (.agg #[.slice (some ⟨g', 0, none⟩) n' cap', .int .i64 ((Ex.emb ⟨st, oi, oe, va⟩ 15).oi : Int), .int .i64 ((Ex.emb ⟨st, oi, oe, va⟩ 15).oe : Int), .int .i64 ((Ex.emb ⟨st, oi, oe, va⟩ 15).va : Int)]) /\ WA w' (Ex.emb ⟨st, oi, oe, va⟩ 15).st g' n' cap' /\ Below w.heap.size w w' := by
 have hlo := hok.ch.lo
 have hhi := hok.ch.hi (by omega)
 have hpos := hok.ch.pos
 have hcl := hok.ch.len
 have hkoi := hok.oi
 have hkoe := hok.oe
 have hkva : va <= 126 := by have h1 : va = Ex.cn st := hok.va; have h2 := Ex.cn_le st; simp only at hcl hhi hlo; omega
 simp only at hlo hhi hpos hcl hkoi hkoe
 have hln := h.len
 have hn0 : 0 < n := by omega
 have hn2 : n <= 200 := by omega
 obtain ⟨W, hW⟩ : ∃ W, (w.alloc (.cells #[.slice (some ⟨g, 0, none⟩) n cap, .int .i64 (oi : Int), .int .i64 (oe : Int), .int .i64 (va : Int)] 94)).alloc (.cells #[.slice none 0 0, .int .i64 0, .int .i64 0, .int .i64 0] 94) = W := ⟨_, rfl⟩
 have hB : WB w W w.heap.size (w.heap.size + 1) g n cap (oi : Int) (oe : Int) (va : Int) := by rw [<- hW]; exact WB.begin w g n cap oi oe va
 have hA : WA W st g n cap := h.below hB.bel
 have HA := hide hA
 have HB := hide hB
 have hfl := rfield_lv
 have hfo := rfield_ov
 have hfi := rfield_is
 have hrW := hr.below hB.bel
 have HRW := hide hrW
 obtain ⟨cb, off, rfl, hbl, hcc⟩ := hrW.cells (by omega)
 have ck : W.cell? ⟨cb, off + i, none⟩ = some (.int .i64 (c.getD i 0)) := hcc i (by rw [hr.len]; exact hi)
 rw [hx] at ck
 have hin : (i : Int) < (nc : Int) := by omega
 obtain ⟨p0, p1, p2, p3⟩ := hB.c
 obtain ⟨q0, q1, q2, q3⟩ := hB.qc
 have pf1 := hB.f 1
 have pf2 := hB.f 2
 have pf3 := hB.f 3
 have qf0 := hB.qf 0
 have qf1 := hB.qf 1
 have qf2 := hB.qf 2
 have qf3 := hB.qf 3
 have npq : ¬ w.heap.size + 1 = w.heap.size := by omega
 have npq2 : ¬ w.heap.size = w.heap.size + 1 := by omega
 have hAd : WA W.drew st g n cap := HA.out.below (Below.drew (Below.refl _ _))
 have hBd : WB w W.drew w.heap.size (w.heap.size + 1) g n cap (oi : Int) (oe : Int) (va : Int) := HB.out.below (Below.drew (Below.refl _ _))
 have HBd := hide hBd
 have HAd := hide hAd
 have hemb : Ex.emb ⟨st, oi, oe, va⟩ 15 = if Ex.can ⟨st, oi, oe, va⟩ false then ⟨⟨Ex.nl (Ex.hd st).lv false, 0, false⟩ :: st, oi, oe, va⟩ else if oi = 0 then ⟨st, oi, oe + 1, va⟩ else ⟨st, oi, oe, va⟩ := rfl
 clear hcc hrW hr h hB hx hA hBd
 cases hc : Ex.can ⟨st, oi, oe, va⟩ false with
 | true =>
  have e1 : Ex.emb ⟨st, oi, oe, va⟩ 15 = ⟨⟨Ex.nl (Ex.hd st).lv false, 0, false⟩ :: st, oi, oe, va⟩ := by rw [hemb, if_pos hc]
  rw [e1]
  obtain ⟨k1, k2, k3⟩ := Ex.can_true hc
  simp only at k1 k2 k3
  have HADD := hide (radd_yes' hAd hn0 hn2 (oi : Int) (oe : Int) (va : Int) (by omega) (by omega) false 0 false (by omega) hhi k1)
  clear e1 hemb hc k2 k3 hAd hok
  generalize Ex.nl (Ex.hd st).lv false = l at *
  go_enter Tryz.func55, Tryz.ntmps55
  go_upto_region 12 with fail
  clear q0 q1 q2 q3 pf1 pf2 pf3 qf0 qf1 qf2 qf3 hfl hfo hfi hlo hhi hpos hcl hkoi hn0 hn2 hln hW hbl hb0 hb1 npq npq2 HA HRW HB HAd
  first | (go_region_law (first
   | (go_simp; go_at_call 85; refine HADD.out.mono ?_; rintro e w5 ⟨g5, c5, rfl, hA5, hb5⟩; have hB5 := HBd.out.below hb5; have hA6 := hA5.set4' (hA5.notWay hB5.hp) g5 (n + 1) c5 oi oe va; have hB6 := hB5.set4' g5 (n + 1) c5 oi oe va; obtain ⟨W6, hW6⟩ : ∃ W6, (((w5.setCell ⟨w.heap.size, 0, none⟩ (.slice (some ⟨g5, 0, none⟩) (n + 1) c5)).setCell ⟨w.heap.size, 1, none⟩ (.int .i64 (oi : Int))).setCell ⟨w.heap.size, 2, none⟩ (.int .i64 (oe : Int))).setCell ⟨w.heap.size, 3, none⟩ (.int .i64 (va : Int)) = W6 := ⟨_, rfl⟩; rw [hW6] at hA6 hB6; have HA6 := hide hA6; have HB6 := hide hB6; obtain ⟨t0, t1, t2, t3⟩ := hB5.c; have tf0 := hB5.f 0; have tf1 := hB5.f 1; have tf2 := hB5.f 2; have tf3 := hB5.f 3; clear hA5 hB5 hA6 hB6 hb5; go_simp))) | fail
  all_goals
   have npq : ¬ w.heap.size + 1 = w.heap.size := by omega
   have npq2 : ¬ w.heap.size = w.heap.size + 1 := by omega
   obtain ⟨x0, x1, x2, x3⟩ := HB6.out.c
   obtain ⟨y0, y1, y2, y3⟩ := HB6.out.qc
   have yf0 := HB6.out.qf 0
   have yf1 := HB6.out.qf 1
   have yf2 := HB6.out.qf 2
   have yf3 := HB6.out.qf 3
   go_wp2
   exact bodyPost_ret (results1 Tryz.results55 _ _ _ (w.heap.size + 1) _ rfl (way_out HB6.out g5 (n + 1) c5 oi oe va)) rfl ⟨g5, (n + 1), c5, rfl, (HA6.out).set4' ((HA6.out).notWay (HB6.out).hq) g5 (n + 1) c5 oi oe va, way_bel HB6.out g5 (n + 1) c5 oi oe va⟩
 | false =>
  have hcf : ¬ Ex.can ⟨st, oi, oe, va⟩ false = true := by rw [hc]; decide
  rw [if_neg hcf] at hemb
  have HADD := hide (radd_no hAd hn0 oi oe va false 0 false (by omega) hhi hc)
  clear hc hcf hAd hok
  have HE := hide (show ((oe + 1 : Nat) : Int) = (oe : Int) + 1 from by omega)
  have HM := hide hemb
  clear hemb
  go_enter Tryz.func55, Tryz.ntmps55
  go_upto_region 12 with fail
  clear q0 q1 q2 q3 pf1 pf2 pf3 qf0 qf1 qf2 qf3 hfl hfo hfi hlo hhi hpos hcl hkoi hn0 hn2 hln hW hbl hb0 hb1 npq npq2 HA HRW HB
  first | (go_region_law (first
   | (go_simp; go_at_call 85; refine HADD.out.mono ?_; rintro e w5 ⟨rfl, hb5⟩; have hB5 := HBd.out.below hb5; have hA5 := HAd.out.below hb5; have hA6 := hA5.set4' (hA5.notWay hB5.hp) g n cap oi oe va; have hB6 := hB5.set4' g n cap oi oe va; obtain ⟨W6, hW6⟩ : ∃ W6, (((w5.setCell ⟨w.heap.size, 0, none⟩ (.slice (some ⟨g, 0, none⟩) n cap)).setCell ⟨w.heap.size, 1, none⟩ (.int .i64 (oi : Int))).setCell ⟨w.heap.size, 2, none⟩ (.int .i64 (oe : Int))).setCell ⟨w.heap.size, 3, none⟩ (.int .i64 (va : Int)) = W6 := ⟨_, rfl⟩; rw [hW6] at hA6 hB6; have HA6 := hide hA6; have HB6 := hide hB6; obtain ⟨t0, t1, t2, t3⟩ := hB5.c; have tf0 := hB5.f 0; have tf1 := hB5.f 1; have tf2 := hB5.f 2; have tf3 := hB5.f 3; clear hA5 hB5 hA6 hB6 hb5; go_simp))) | fail
  all_goals
   have npq : ¬ w.heap.size + 1 = w.heap.size := by omega
   have npq2 : ¬ w.heap.size = w.heap.size + 1 := by omega
   obtain ⟨x0, x1, x2, x3⟩ := HB6.out.c
   obtain ⟨y0, y1, y2, y3⟩ := HB6.out.qc
   have yf0 := HB6.out.qf 0
   have yf1 := HB6.out.qf 1
   have yf2 := HB6.out.qf 2
   have yf3 := HB6.out.qf 3
   have xf2 := HB6.out.f 2
   by_cases h0 : oi = 0
   ·have HE1 := hide (show Ex.emb ⟨st, oi, oe, va⟩ 15 = ⟨st, oi, oe + 1, va⟩ from by rw [HM.out, if_pos h0])
    have e0 : ((oi : Int) == 0) = true := beq_iff_eq.2 (by omega)
    have hB7 := HB6.out.setOe ((oe : Int) + 1)
    have hA7 := HA6.out.other (p := w.heap.size) (j := 2) (v := .int .i64 ((oe : Int) + 1)) (HA6.out.notWay HB6.out.hp)
    have HB7 := hide hB7
    have HA7 := hide hA7
    clear hB7 hA7 h0
    go_wp2
    exact bodyPost_ret (results1 Tryz.results55 _ _ _ (w.heap.size + 1) _ rfl (way_out HB7.out g n cap oi ((oe : Int) + 1) va)) rfl ⟨g, n, cap, by rw [HE1.out, HE.out], by rw [HE1.out]; exact (HA7.out).set4' ((HA7.out).notWay (HB7.out).hq) g n cap oi ((oe : Int) + 1) va, way_bel HB7.out g n cap oi ((oe : Int) + 1) va⟩
   ·have HE1 := hide (show Ex.emb ⟨st, oi, oe, va⟩ 15 = ⟨st, oi, oe, va⟩ from by rw [HM.out, if_neg h0])
    have e0 : ((oi : Int) == 0) = false := beq_false_of_ne (by omega)
    clear h0
    go_wp2
    exact bodyPost_ret (results1 Tryz.results55 _ _ _ (w.heap.size + 1) _ rfl (way_out HB6.out g n cap oi oe va)) rfl ⟨g, n, cap, by rw [HE1.out], by rw [HE1.out]; exact (HA6.out).set4' ((HA6.out).notWay (HB6.out).hq) g n cap oi oe va, way_bel HB6.out g n cap oi oe va⟩
end Go.Proofs.YtfcoebbblfcdoaaGreatDoor
