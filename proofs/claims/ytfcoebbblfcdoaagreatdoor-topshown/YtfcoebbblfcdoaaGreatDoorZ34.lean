import Derived.Test.YtfcoebbblfcdoaaGreatDoorZ33
import Derived.Deep.RegionLaw
/- The document's behind, at embeddings and at initiators. -/
namespace Go.Proofs.YtfcoebbblfcdoaaGreatDoor
open Go.RowKit
set_option linter.unusedVariables false
set_option maxHeartbeats 2000000
set_option maxRecDepth 100000
theorem rbeh_18 {w : World} {st : List Ex.Ent} {g n cap : Nat} {oi oe va : Nat} {b : Int} {k : Nat} (h : WA w st g n cap) (hok : Ex.Ok b ⟨st, oi, oe, va⟩ k) (hb0 : 0 <= b) (hb1 : b <= 1) (hk : k <= 1000) (ao : Option Addr) (nc capc : Nat) (c : List Int) (hr : Row .i64 w ao nc capc c) (hnc : nc <= 300) (i : Nat) (hi : i < nc) (hx : c.getD i 0 = 18) :
  Calls Tryz.prog 55 #[.agg #[.slice (some ⟨g, 0, none⟩) n cap, .int .i64 (oi : Int), .int .i64 (oe : Int), .int .i64 (va : Int)], .slice ao nc capc, .int .i64 (i : Int)] w fun e w' => ∃ g' n' cap', e = .returned (.agg #[.slice (some ⟨g', 0, none⟩) n' cap', .int .i64 ((Ex.emb ⟨st, oi, oe, va⟩ 18).oi : Int), .int .i64 ((Ex.emb ⟨st, oi, oe, va⟩ 18).oe : Int), .int .i64 ((Ex.emb ⟨st, oi, oe, va⟩ 18).va : Int)]) /\ WA w' (Ex.emb ⟨st, oi, oe, va⟩ 18).st g' n' cap' /\ Below w.heap.size w w' := by
 have hlo := hok.ch.lo
 have hhi := hok.ch.hi (by omega)
 have hpos := hok.ch.pos
 have hcl := hok.ch.len
 have hkoi := hok.oi
 have hkoe := hok.oe
 have hkva : va <= 126 := by have h1 : va = Ex.cn st := hok.va; have h2 := Ex.cn_le st; simp only at hcl hhi hlo; omega
 simp only at hlo hhi hpos hcl hkoi hkoe
 have hln := h.len
 have hn0 : 0 < n := by omega
 have hn2 : n <= 200 := by omega
 obtain ⟨W, hW⟩ : ∃ W, (w.alloc (.cells #[.slice (some ⟨g, 0, none⟩) n cap, .int .i64 (oi : Int), .int .i64 (oe : Int), .int .i64 (va : Int)] 94)).alloc (.cells #[.slice none 0 0, .int .i64 0, .int .i64 0, .int .i64 0] 94) = W := ⟨_, rfl⟩
 have hB : WB w W w.heap.size (w.heap.size + 1) g n cap (oi : Int) (oe : Int) (va : Int) := by rw [<- hW]; exact WB.begin w g n cap oi oe va
 have hA : WA W st g n cap := h.below hB.bel
 have HA := hide hA
 have HB := hide hB
 have hfl := rfield_lv
 have hfo := rfield_ov
 have hfi := rfield_is
 have hrW := hr.below hB.bel
 have HRW := hide hrW
 obtain ⟨cb, off, rfl, hbl, hcc⟩ := hrW.cells (by omega)
 have ck : W.cell? ⟨cb, off + i, none⟩ = some (.int .i64 (c.getD i 0)) := hcc i (by rw [hr.len]; exact hi)
 rw [hx] at ck
 have hin : (i : Int) < (nc : Int) := by omega
 obtain ⟨p0, p1, p2, p3⟩ := hB.c
 obtain ⟨q0, q1, q2, q3⟩ := hB.qc
 have pf1 := hB.f 1
 have pf2 := hB.f 2
 have pf3 := hB.f 3
 have qf0 := hB.qf 0
 have qf1 := hB.qf 1
 have qf2 := hB.qf 2
 have qf3 := hB.qf 3
 have npq : ¬ w.heap.size + 1 = w.heap.size := by omega
 have npq2 : ¬ w.heap.size = w.heap.size + 1 := by omega
 have hAd : WA W.drew st g n cap := HA.out.below (Below.drew (Below.refl _ _))
 have hBd : WB w W.drew w.heap.size (w.heap.size + 1) g n cap (oi : Int) (oe : Int) (va : Int) := HB.out.below (Below.drew (Below.refl _ _))
 have HBd := hide hBd
 have HAd := hide hAd
 have hemb : Ex.emb ⟨st, oi, oe, va⟩ 18 = if Ex.can ⟨st, oi, oe, va⟩ true then ⟨⟨Ex.nl (Ex.hd st).lv true, 2, false⟩ :: st, oi, oe, va⟩ else if oi = 0 then ⟨st, oi, oe + 1, va⟩ else ⟨st, oi, oe, va⟩ := rfl
 clear hcc hrW hr h hB hx hA hBd
 cases hc : Ex.can ⟨st, oi, oe, va⟩ true with
 | true =>
  have e1 : Ex.emb ⟨st, oi, oe, va⟩ 18 = ⟨⟨Ex.nl (Ex.hd st).lv true, 2, false⟩ :: st, oi, oe, va⟩ := by rw [hemb, if_pos hc]
  rw [e1]
  obtain ⟨k1, k2, k3⟩ := Ex.can_true hc
  simp only at k1 k2 k3
  have HADD := hide (radd_yes' hAd hn0 hn2 (oi : Int) (oe : Int) (va : Int) (by omega) (by omega) true 2 false (by omega) hhi k1)
  clear e1 hemb hc k2 k3 hAd hok
  generalize Ex.nl (Ex.hd st).lv true = l at *
  go_enter Tryz.func55, Tryz.ntmps55
  go_upto_region 12 with fail
  clear q0 q1 q2 q3 pf1 pf2 pf3 qf0 qf1 qf2 qf3 hfl hfo hfi hlo hhi hpos hcl hkoi hn0 hn2 hln hW hbl hb0 hb1 npq npq2 HA HRW HB HAd
  first | (go_region_law (first
   | (go_simp; go_at_call 85; refine HADD.out.mono ?_; rintro e w5 ⟨g5, c5, rfl, hA5, hb5⟩; have hB5 := HBd.out.below hb5; have hA6 := hA5.set4' (hA5.notWay hB5.hp) g5 (n + 1) c5 oi oe va; have hB6 := hB5.set4' g5 (n + 1) c5 oi oe va; obtain ⟨W6, hW6⟩ : ∃ W6, (((w5.setCell ⟨w.heap.size, 0, none⟩ (.slice (some ⟨g5, 0, none⟩) (n + 1) c5)).setCell ⟨w.heap.size, 1, none⟩ (.int .i64 (oi : Int))).setCell ⟨w.heap.size, 2, none⟩ (.int .i64 (oe : Int))).setCell ⟨w.heap.size, 3, none⟩ (.int .i64 (va : Int)) = W6 := ⟨_, rfl⟩; rw [hW6] at hA6 hB6; have HA6 := hide hA6; have HB6 := hide hB6; obtain ⟨t0, t1, t2, t3⟩ := hB5.c; have tf0 := hB5.f 0; have tf1 := hB5.f 1; have tf2 := hB5.f 2; have tf3 := hB5.f 3; clear hA5 hB5 hA6 hB6 hb5; go_simp))) | fail
  all_goals
   have npq : ¬ w.heap.size + 1 = w.heap.size := by omega
   have npq2 : ¬ w.heap.size = w.heap.size + 1 := by omega
   obtain ⟨x0, x1, x2, x3⟩ := HB6.out.c
   obtain ⟨y0, y1, y2, y3⟩ := HB6.out.qc
   have yf0 := HB6.out.qf 0
   have yf1 := HB6.out.qf 1
   have yf2 := HB6.out.qf 2
   have yf3 := HB6.out.qf 3
   go_wp2
   exact bodyPost_ret (results1 Tryz.results55 _ _ _ (w.heap.size + 1) _ rfl (way_out HB6.out g5 (n + 1) c5 oi oe va)) rfl ⟨g5, (n + 1), c5, rfl, (HA6.out).set4' ((HA6.out).notWay (HB6.out).hq) g5 (n + 1) c5 oi oe va, way_bel HB6.out g5 (n + 1) c5 oi oe va⟩
 | false =>
  have hcf : ¬ Ex.can ⟨st, oi, oe, va⟩ true = true := by rw [hc]; decide
  rw [if_neg hcf] at hemb
  have HADD := hide (radd_no hAd hn0 oi oe va true 2 false (by omega) hhi hc)
  clear hc hcf hAd hok
  have HE := hide (show ((oe + 1 : Nat) : Int) = (oe : Int) + 1 from by omega)
  have HM := hide hemb
  clear hemb
  go_enter Tryz.func55, Tryz.ntmps55
  go_upto_region 12 with fail
  clear q0 q1 q2 q3 pf1 pf2 pf3 qf0 qf1 qf2 qf3 hfl hfo hfi hlo hhi hpos hcl hkoi hn0 hn2 hln hW hbl hb0 hb1 npq npq2 HA HRW HB
  first | (go_region_law (first
   | (go_simp; go_at_call 85; refine HADD.out.mono ?_; rintro e w5 ⟨rfl, hb5⟩; have hB5 := HBd.out.below hb5; have hA5 := HAd.out.below hb5; have hA6 := hA5.set4' (hA5.notWay hB5.hp) g n cap oi oe va; have hB6 := hB5.set4' g n cap oi oe va; obtain ⟨W6, hW6⟩ : ∃ W6, (((w5.setCell ⟨w.heap.size, 0, none⟩ (.slice (some ⟨g, 0, none⟩) n cap)).setCell ⟨w.heap.size, 1, none⟩ (.int .i64 (oi : Int))).setCell ⟨w.heap.size, 2, none⟩ (.int .i64 (oe : Int))).setCell ⟨w.heap.size, 3, none⟩ (.int .i64 (va : Int)) = W6 := ⟨_, rfl⟩; rw [hW6] at hA6 hB6; have HA6 := hide hA6; have HB6 := hide hB6; obtain ⟨t0, t1, t2, t3⟩ := hB5.c; have tf0 := hB5.f 0; have tf1 := hB5.f 1; have tf2 := hB5.f 2; have tf3 := hB5.f 3; clear hA5 hB5 hA6 hB6 hb5; go_simp))) | fail
  all_goals
   have npq : ¬ w.heap.size + 1 = w.heap.size := by omega
   have npq2 : ¬ w.heap.size = w.heap.size + 1 := by omega
   obtain ⟨x0, x1, x2, x3⟩ := HB6.out.c
   obtain ⟨y0, y1, y2, y3⟩ := HB6.out.qc
   have yf0 := HB6.out.qf 0
   have yf1 := HB6.out.qf 1
   have yf2 := HB6.out.qf 2
   have yf3 := HB6.out.qf 3
   have xf2 := HB6.out.f 2
   by_cases h0 : oi = 0
   ·have HE1 := hide (show Ex.emb ⟨st, oi, oe, va⟩ 18 = ⟨st, oi, oe + 1, va⟩ from by rw [HM.out, if_pos h0])
    have e0 : ((oi : Int) == 0) = true := beq_iff_eq.2 (by omega)
    have hB7 := HB6.out.setOe ((oe : Int) + 1)
    have hA7 := HA6.out.other (p := w.heap.size) (j := 2) (v := .int .i64 ((oe : Int) + 1)) (HA6.out.notWay HB6.out.hp)
    have HB7 := hide hB7
    have HA7 := hide hA7
    clear hB7 hA7 h0
    go_wp2
    exact bodyPost_ret (results1 Tryz.results55 _ _ _ (w.heap.size + 1) _ rfl (way_out HB7.out g n cap oi ((oe : Int) + 1) va)) rfl ⟨g, n, cap, by rw [HE1.out, HE.out], by rw [HE1.out]; exact (HA7.out).set4' ((HA7.out).notWay (HB7.out).hq) g n cap oi ((oe : Int) + 1) va, way_bel HB7.out g n cap oi ((oe : Int) + 1) va⟩
   ·have HE1 := hide (show Ex.emb ⟨st, oi, oe, va⟩ 18 = ⟨st, oi, oe, va⟩ from by rw [HM.out, if_neg h0])
    have e0 : ((oi : Int) == 0) = false := beq_false_of_ne (by omega)
    clear h0
    go_wp2
    exact bodyPost_ret (results1 Tryz.results55 _ _ _ (w.heap.size + 1) _ rfl (way_out HB6.out g n cap oi oe va)) rfl ⟨g, n, cap, by rw [HE1.out], by rw [HE1.out]; exact (HA6.out).set4' ((HA6.out).notWay (HB6.out).hq) g n cap oi oe va, way_bel HB6.out g n cap oi oe va⟩
end Go.Proofs.YtfcoebbblfcdoaaGreatDoor

/- The document's behind, at embeddings and at initiators. -/
namespace Go.Proofs.YtfcoebbblfcdoaaGreatDoor
open Go.RowKit
set_option linter.unusedVariables false
set_option maxHeartbeats 2000000
set_option maxRecDepth 100000
theorem rbeh_16 {w : World} {st : List Ex.Ent} {g n cap : Nat} {oi oe va : Nat} {b : Int} {k : Nat} (h : WA w st g n cap) (hok : Ex.Ok b ⟨st, oi, oe, va⟩ k) (hb0 : 0 <= b) (hb1 : b <= 1) (hk : k <= 1000) (ao : Option Addr) (nc capc : Nat) (c : List Int) (hr : Row .i64 w ao nc capc c) (hnc : nc <= 300) (i : Nat) (hi : i < nc) (hx : c.getD i 0 = 16) :
  Calls Tryz.prog 55 #[.agg #[.slice (some ⟨g, 0, none⟩) n cap, .int .i64 (oi : Int), .int .i64 (oe : Int), .int .i64 (va : Int)], .slice ao nc capc, .int .i64 (i : Int)] w fun e w' => ∃ g' n' cap', e = .returned (.agg #[.slice (some ⟨g', 0, none⟩) n' cap', .int .i64 ((Ex.emb ⟨st, oi, oe, va⟩ 16).oi : Int), .int .i64 ((Ex.emb ⟨st, oi, oe, va⟩ 16).oe : Int), .int .i64 ((Ex.emb ⟨st, oi, oe, va⟩ 16).va : Int)]) /\ WA w' (Ex.emb ⟨st, oi, oe, va⟩ 16).st g' n' cap' /\ Below w.heap.size w w' := by
 have hlo := hok.ch.lo
 have hhi := hok.ch.hi (by omega)
 have hpos := hok.ch.pos
 have hcl := hok.ch.len
 have hkoi := hok.oi
 have hkoe := hok.oe
 have hkva : va <= 126 := by have h1 : va = Ex.cn st := hok.va; have h2 := Ex.cn_le st; simp only at hcl hhi hlo; omega
 simp only at hlo hhi hpos hcl hkoi hkoe
 have hln := h.len
 have hn0 : 0 < n := by omega
 have hn2 : n <= 200 := by omega
 obtain ⟨W, hW⟩ : ∃ W, (w.alloc (.cells #[.slice (some ⟨g, 0, none⟩) n cap, .int .i64 (oi : Int), .int .i64 (oe : Int), .int .i64 (va : Int)] 94)).alloc (.cells #[.slice none 0 0, .int .i64 0, .int .i64 0, .int .i64 0] 94) = W := ⟨_, rfl⟩
 have hB : WB w W w.heap.size (w.heap.size + 1) g n cap (oi : Int) (oe : Int) (va : Int) := by rw [<- hW]; exact WB.begin w g n cap oi oe va
 have hA : WA W st g n cap := h.below hB.bel
 have HA := hide hA
 have HB := hide hB
 have hfl := rfield_lv
 have hfo := rfield_ov
 have hfi := rfield_is
 have hrW := hr.below hB.bel
 have HRW := hide hrW
 obtain ⟨cb, off, rfl, hbl, hcc⟩ := hrW.cells (by omega)
 have ck : W.cell? ⟨cb, off + i, none⟩ = some (.int .i64 (c.getD i 0)) := hcc i (by rw [hr.len]; exact hi)
 rw [hx] at ck
 have hin : (i : Int) < (nc : Int) := by omega
 obtain ⟨p0, p1, p2, p3⟩ := hB.c
 obtain ⟨q0, q1, q2, q3⟩ := hB.qc
 have pf1 := hB.f 1
 have pf2 := hB.f 2
 have pf3 := hB.f 3
 have qf0 := hB.qf 0
 have qf1 := hB.qf 1
 have qf2 := hB.qf 2
 have qf3 := hB.qf 3
 have npq : ¬ w.heap.size + 1 = w.heap.size := by omega
 have npq2 : ¬ w.heap.size = w.heap.size + 1 := by omega
 have hAd : WA W.drew st g n cap := HA.out.below (Below.drew (Below.refl _ _))
 have hBd : WB w W.drew w.heap.size (w.heap.size + 1) g n cap (oi : Int) (oe : Int) (va : Int) := HB.out.below (Below.drew (Below.refl _ _))
 have HBd := hide hBd
 have HAd := hide hAd
 have hemb : Ex.emb ⟨st, oi, oe, va⟩ 16 = if Ex.can ⟨st, oi, oe, va⟩ false then ⟨⟨Ex.nl (Ex.hd st).lv false, 1, false⟩ :: st, oi, oe, va⟩ else if oi = 0 then ⟨st, oi, oe + 1, va⟩ else ⟨st, oi, oe, va⟩ := rfl
 clear hcc hrW hr h hB hx hA hBd
 cases hc : Ex.can ⟨st, oi, oe, va⟩ false with
 | true =>
  have e1 : Ex.emb ⟨st, oi, oe, va⟩ 16 = ⟨⟨Ex.nl (Ex.hd st).lv false, 1, false⟩ :: st, oi, oe, va⟩ := by rw [hemb, if_pos hc]
  rw [e1]
  obtain ⟨k1, k2, k3⟩ := Ex.can_true hc
  simp only at k1 k2 k3
  have HADD := hide (radd_yes' hAd hn0 hn2 (oi : Int) (oe : Int) (va : Int) (by omega) (by omega) false 1 false (by omega) hhi k1)
  clear e1 hemb hc k2 k3 hAd hok
  generalize Ex.nl (Ex.hd st).lv false = l at *
  go_enter Tryz.func55, Tryz.ntmps55
  go_upto_region 12 with fail
  clear q0 q1 q2 q3 pf1 pf2 pf3 qf0 qf1 qf2 qf3 hfl hfo hfi hlo hhi hpos hcl hkoi hn0 hn2 hln hW hbl hb0 hb1 npq npq2 HA HRW HB HAd
  first | (go_region_law (first
   | (go_simp; go_at_call 85; refine HADD.out.mono ?_; rintro e w5 ⟨g5, c5, rfl, hA5, hb5⟩; have hB5 := HBd.out.below hb5; have hA6 := hA5.set4' (hA5.notWay hB5.hp) g5 (n + 1) c5 oi oe va; have hB6 := hB5.set4' g5 (n + 1) c5 oi oe va; obtain ⟨W6, hW6⟩ : ∃ W6, (((w5.setCell ⟨w.heap.size, 0, none⟩ (.slice (some ⟨g5, 0, none⟩) (n + 1) c5)).setCell ⟨w.heap.size, 1, none⟩ (.int .i64 (oi : Int))).setCell ⟨w.heap.size, 2, none⟩ (.int .i64 (oe : Int))).setCell ⟨w.heap.size, 3, none⟩ (.int .i64 (va : Int)) = W6 := ⟨_, rfl⟩; rw [hW6] at hA6 hB6; have HA6 := hide hA6; have HB6 := hide hB6; obtain ⟨t0, t1, t2, t3⟩ := hB5.c; have tf0 := hB5.f 0; have tf1 := hB5.f 1; have tf2 := hB5.f 2; have tf3 := hB5.f 3; clear hA5 hB5 hA6 hB6 hb5; go_simp))) | fail
  all_goals
   have npq : ¬ w.heap.size + 1 = w.heap.size := by omega
   have npq2 : ¬ w.heap.size = w.heap.size + 1 := by omega
   obtain ⟨x0, x1, x2, x3⟩ := HB6.out.c
   obtain ⟨y0, y1, y2, y3⟩ := HB6.out.qc
   have yf0 := HB6.out.qf 0
   have yf1 := HB6.out.qf 1
   have yf2 := HB6.out.qf 2
   have yf3 := HB6.out.qf 3
   go_wp2
   exact bodyPost_ret (results1 Tryz.results55 _ _ _ (w.heap.size + 1) _ rfl (way_out HB6.out g5 (n + 1) c5 oi oe va)) rfl ⟨g5, (n + 1), c5, rfl, (HA6.out).set4' ((HA6.out).notWay (HB6.out).hq) g5 (n + 1) c5 oi oe va, way_bel HB6.out g5 (n + 1) c5 oi oe va⟩
 | false =>
  have hcf : ¬ Ex.can ⟨st, oi, oe, va⟩ false = true := by rw [hc]; decide
  rw [if_neg hcf] at hemb
  have HADD := hide (radd_no hAd hn0 oi oe va false 1 false (by omega) hhi hc)
  clear hc hcf hAd hok
  have HE := hide (show ((oe + 1 : Nat) : Int) = (oe : Int) + 1 from by omega)
  have HM := hide hemb
  clear hemb
  go_enter Tryz.func55, Tryz.ntmps55
  go_upto_region 12 with fail
  clear q0 q1 q2 q3 pf1 pf2 pf3 qf0 qf1 qf2 qf3 hfl hfo hfi hlo hhi hpos hcl hkoi hn0 hn2 hln hW hbl hb0 hb1 npq npq2 HA HRW HB
  first | (go_region_law (first
   | (go_simp; go_at_call 85; refine HADD.out.mono ?_; rintro e w5 ⟨rfl, hb5⟩; have hB5 := HBd.out.below hb5; have hA5 := HAd.out.below hb5; have hA6 := hA5.set4' (hA5.notWay hB5.hp) g n cap oi oe va; have hB6 := hB5.set4' g n cap oi oe va; obtain ⟨W6, hW6⟩ : ∃ W6, (((w5.setCell ⟨w.heap.size, 0, none⟩ (.slice (some ⟨g, 0, none⟩) n cap)).setCell ⟨w.heap.size, 1, none⟩ (.int .i64 (oi : Int))).setCell ⟨w.heap.size, 2, none⟩ (.int .i64 (oe : Int))).setCell ⟨w.heap.size, 3, none⟩ (.int .i64 (va : Int)) = W6 := ⟨_, rfl⟩; rw [hW6] at hA6 hB6; have HA6 := hide hA6; have HB6 := hide hB6; obtain ⟨t0, t1, t2, t3⟩ := hB5.c; have tf0 := hB5.f 0; have tf1 := hB5.f 1; have tf2 := hB5.f 2; have tf3 := hB5.f 3; clear hA5 hB5 hA6 hB6 hb5; go_simp))) | fail
  all_goals
   have npq : ¬ w.heap.size + 1 = w.heap.size := by omega
   have npq2 : ¬ w.heap.size = w.heap.size + 1 := by omega
   obtain ⟨x0, x1, x2, x3⟩ := HB6.out.c
   obtain ⟨y0, y1, y2, y3⟩ := HB6.out.qc
   have yf0 := HB6.out.qf 0
   have yf1 := HB6.out.qf 1
   have yf2 := HB6.out.qf 2
   have yf3 := HB6.out.qf 3
   have xf2 := HB6.out.f 2
   by_cases h0 : oi = 0
   ·have HE1 := hide (show Ex.emb ⟨st, oi, oe, va⟩ 16 = ⟨st, oi, oe + 1, va⟩ from by rw [HM.out, if_pos h0])
    have e0 : ((oi : Int) == 0) = true := beq_iff_eq.2 (by omega)
    have hB7 := HB6.out.setOe ((oe : Int) + 1)
    have hA7 := HA6.out.other (p := w.heap.size) (j := 2) (v := .int .i64 ((oe : Int) + 1)) (HA6.out.notWay HB6.out.hp)
    have HB7 := hide hB7
    have HA7 := hide hA7
    clear hB7 hA7 h0
    go_wp2
    exact bodyPost_ret (results1 Tryz.results55 _ _ _ (w.heap.size + 1) _ rfl (way_out HB7.out g n cap oi ((oe : Int) + 1) va)) rfl ⟨g, n, cap, by rw [HE1.out, HE.out], by rw [HE1.out]; exact (HA7.out).set4' ((HA7.out).notWay (HB7.out).hq) g n cap oi ((oe : Int) + 1) va, way_bel HB7.out g n cap oi ((oe : Int) + 1) va⟩
   ·have HE1 := hide (show Ex.emb ⟨st, oi, oe, va⟩ 16 = ⟨st, oi, oe, va⟩ from by rw [HM.out, if_neg h0])
    have e0 : ((oi : Int) == 0) = false := beq_false_of_ne (by omega)
    clear h0
    go_wp2
    exact bodyPost_ret (results1 Tryz.results55 _ _ _ (w.heap.size + 1) _ rfl (way_out HB6.out g n cap oi oe va)) rfl ⟨g, n, cap, by rw [HE1.out], by rw [HE1.out]; exact (HA6.out).set4' ((HA6.out).notWay (HB6.out).hq) g n cap oi oe va, way_bel HB6.out g n cap oi oe va⟩
end Go.Proofs.YtfcoebbblfcdoaaGreatDoor

/- The document's behind, at embeddings and at initiators. -/
namespace Go.Proofs.YtfcoebbblfcdoaaGreatDoor
open Go.RowKit
set_option linter.unusedVariables false
set_option maxHeartbeats 2000000
set_option maxRecDepth 100000
theorem rbeh_21 {w : World} {st : List Ex.Ent} {g n cap : Nat} {oi oe va : Nat} {b : Int} {k : Nat} (h : WA w st g n cap) (hok : Ex.Ok b ⟨st, oi, oe, va⟩ k) (hb0 : 0 <= b) (hb1 : b <= 1) (hk : k <= 1000) (ao : Option Addr) (nc capc : Nat) (c : List Int) (hr : Row .i64 w ao nc capc c) (hnc : nc <= 300) (i : Nat) (hi : i < nc) (hx : c.getD i 0 = 21) :
  Calls Tryz.prog 55 #[.agg #[.slice (some ⟨g, 0, none⟩) n cap, .int .i64 (oi : Int), .int .i64 (oe : Int), .int .i64 (va : Int)], .slice ao nc capc, .int .i64 (i : Int)] w fun e w' => ∃ g' n' cap', e = .returned (.agg #[.slice (some ⟨g', 0, none⟩) n' cap', .int .i64 ((Ex.iso ⟨st, oi, oe, va⟩ (Ex.wo 21 (c.drop (i + 1)))).oi : Int), .int .i64 ((Ex.iso ⟨st, oi, oe, va⟩ (Ex.wo 21 (c.drop (i + 1)))).oe : Int), .int .i64 ((Ex.iso ⟨st, oi, oe, va⟩ (Ex.wo 21 (c.drop (i + 1)))).va : Int)]) /\ WA w' (Ex.iso ⟨st, oi, oe, va⟩ (Ex.wo 21 (c.drop (i + 1)))).st g' n' cap' /\ Below w.heap.size w w' := by
 have hlo := hok.ch.lo
 have hhi := hok.ch.hi (by omega)
 have hpos := hok.ch.pos
 have hcl := hok.ch.len
 have hkoi := hok.oi
 have hkoe := hok.oe
 have hkva : va <= 126 := by have h1 : va = Ex.cn st := hok.va; have h2 := Ex.cn_le st; simp only at hcl hhi hlo; omega
 simp only at hlo hhi hpos hcl hkoi hkoe
 have hln := h.len
 have hn0 : 0 < n := by omega
 have hn2 : n <= 200 := by omega
 obtain ⟨W, hW⟩ : ∃ W, (w.alloc (.cells #[.slice (some ⟨g, 0, none⟩) n cap, .int .i64 (oi : Int), .int .i64 (oe : Int), .int .i64 (va : Int)] 94)).alloc (.cells #[.slice none 0 0, .int .i64 0, .int .i64 0, .int .i64 0] 94) = W := ⟨_, rfl⟩
 have hB : WB w W w.heap.size (w.heap.size + 1) g n cap (oi : Int) (oe : Int) (va : Int) := by rw [<- hW]; exact WB.begin w g n cap oi oe va
 have hA : WA W st g n cap := h.below hB.bel
 have HA := hide hA
 have HB := hide hB
 have hfl := rfield_lv
 have hfo := rfield_ov
 have hfi := rfield_is
 have hrW := hr.below hB.bel
 have HRW := hide hrW
 obtain ⟨cb, off, rfl, hbl, hcc⟩ := hrW.cells (by omega)
 have ck : W.cell? ⟨cb, off + i, none⟩ = some (.int .i64 (c.getD i 0)) := hcc i (by rw [hr.len]; exact hi)
 rw [hx] at ck
 have hin : (i : Int) < (nc : Int) := by omega
 obtain ⟨p0, p1, p2, p3⟩ := hB.c
 obtain ⟨q0, q1, q2, q3⟩ := hB.qc
 have pf1 := hB.f 1
 have pf2 := hB.f 2
 have pf3 := hB.f 3
 have qf0 := hB.qf 0
 have qf1 := hB.qf 1
 have qf2 := hB.qf 2
 have qf3 := hB.qf 3
 have npq : ¬ w.heap.size + 1 = w.heap.size := by omega
 have npq2 : ¬ w.heap.size = w.heap.size + 1 := by omega
 have hAd : WA W.drew st g n cap := HA.out.below (Below.drew (Below.refl _ _))
 have hBd : WB w W.drew w.heap.size (w.heap.size + 1) g n cap (oi : Int) (oe : Int) (va : Int) := HB.out.below (Below.drew (Below.refl _ _))
 have HBd := hide hBd
 have HAd := hide hAd
 have HODD := hide (rodd_any _ nc capc c i W.drew (HRW.out.below (Below.drew (Below.refl _ _))) hnc hi)
 rw [hx] at HODD
 generalize Ex.wo 21 (c.drop (i + 1)) = o at *
 have hiso : Ex.iso ⟨st, oi, oe, va⟩ o = if Ex.can ⟨st, oi, oe, va⟩ o then ⟨⟨Ex.nl (Ex.hd st).lv o, 0, true⟩ :: st, oi, oe, va + 1⟩ else ⟨st, oi + 1, oe, va⟩ := rfl
 clear hcc hrW hr h hB hx hA hBd
 cases hc : Ex.can ⟨st, oi, oe, va⟩ o with
 | true =>
  have e1 : Ex.iso ⟨st, oi, oe, va⟩ o = ⟨⟨Ex.nl (Ex.hd st).lv o, 0, true⟩ :: st, oi, oe, va + 1⟩ := by rw [hiso, if_pos hc]
  rw [e1]
  obtain ⟨k1, k2, k3⟩ := Ex.can_true hc
  simp only at k1 k2 k3
  have HADD := hide (radd_yes' hAd hn0 hn2 (oi : Int) (oe : Int) (va : Int) (by omega) (by omega) o 0 true (by omega) hhi k1)
  have HE := hide (show ((va + 1 : Nat) : Int) = (va : Int) + 1 from by omega)
  clear e1 hiso hc k2 k3 hAd hok
  generalize Ex.nl (Ex.hd st).lv o = l at *
  go_enter Tryz.func55, Tryz.ntmps55
  go_upto_region 18 with fail
  clear q0 q1 q2 q3 pf1 pf2 pf3 qf0 qf1 qf2 qf3 hfl hfo hfi hlo hhi hpos hcl hn0 hn2 hln hW hbl hb0 hb1 npq npq2 HA HB HRW
  first | (go_region_law (first
   | (go_simp; go_at_call 86; refine HODD.out.mono ?_; rintro e w4 ⟨rfl, rfl⟩; go_simp)
   | (go_simp; go_at_call 85; refine HADD.out.mono ?_; rintro e w5 ⟨g5, c5, rfl, hA5, hb5⟩; have hB5 := HBd.out.below hb5; have hA6 := hA5.set4' (hA5.notWay hB5.hp) g5 (n + 1) c5 oi oe va; have hB6 := hB5.set4' g5 (n + 1) c5 oi oe va; obtain ⟨W6, hW6⟩ : ∃ W6, (((w5.setCell ⟨w.heap.size, 0, none⟩ (.slice (some ⟨g5, 0, none⟩) (n + 1) c5)).setCell ⟨w.heap.size, 1, none⟩ (.int .i64 (oi : Int))).setCell ⟨w.heap.size, 2, none⟩ (.int .i64 (oe : Int))).setCell ⟨w.heap.size, 3, none⟩ (.int .i64 (va : Int)) = W6 := ⟨_, rfl⟩; rw [hW6] at hA6 hB6; have HA6 := hide hA6; have HB6 := hide hB6; obtain ⟨t0, t1, t2, t3⟩ := hB5.c; have tf0 := hB5.f 0; have tf1 := hB5.f 1; have tf2 := hB5.f 2; have tf3 := hB5.f 3; clear hA5 hB5 hA6 hB6 hb5; go_simp))) | fail
  all_goals
   have npq : ¬ w.heap.size + 1 = w.heap.size := by omega
   have npq2 : ¬ w.heap.size = w.heap.size + 1 := by omega
   obtain ⟨x0, x1, x2, x3⟩ := HB6.out.c
   obtain ⟨y0, y1, y2, y3⟩ := HB6.out.qc
   have yf0 := HB6.out.qf 0
   have yf1 := HB6.out.qf 1
   have yf2 := HB6.out.qf 2
   have yf3 := HB6.out.qf 3
   have xf3 := HB6.out.f 3
   have hB7 := HB6.out.setVa ((va : Int) + 1)
   have hA7 := HA6.out.other (p := w.heap.size) (j := 3) (v := .int .i64 ((va : Int) + 1)) (HA6.out.notWay HB6.out.hp)
   have HB7 := hide hB7
   have HA7 := hide hA7
   clear hB7 hA7
   go_wp2
   exact bodyPost_ret (results1 Tryz.results55 _ _ _ (w.heap.size + 1) _ rfl (way_out HB7.out g5 (n + 1) c5 oi oe ((va : Int) + 1))) rfl ⟨g5, (n + 1), c5, by rw [HE.out], (HA7.out).set4' ((HA7.out).notWay (HB7.out).hq) g5 (n + 1) c5 oi oe ((va : Int) + 1), way_bel HB7.out g5 (n + 1) c5 oi oe ((va : Int) + 1)⟩
 | false =>
  have e1 : Ex.iso ⟨st, oi, oe, va⟩ o = ⟨st, oi + 1, oe, va⟩ := by rw [hiso, if_neg (by rw [hc]; decide)]
  rw [e1]
  have HADD := hide (radd_no hAd hn0 oi oe va o 0 true (by omega) hhi hc)
  have HE := hide (show ((oi + 1 : Nat) : Int) = (oi : Int) + 1 from by omega)
  clear e1 hiso hc hAd hok
  go_enter Tryz.func55, Tryz.ntmps55
  go_upto_region 18 with fail
  clear q0 q1 q2 q3 pf1 pf2 pf3 qf0 qf1 qf2 qf3 hfl hfo hfi hlo hhi hpos hcl hn0 hn2 hln hW hbl hb0 hb1 npq npq2 HA HB HRW
  first | (go_region_law (first
   | (go_simp; go_at_call 86; refine HODD.out.mono ?_; rintro e w4 ⟨rfl, rfl⟩; go_simp)
   | (go_simp; go_at_call 85; refine HADD.out.mono ?_; rintro e w5 ⟨rfl, hb5⟩; have hB5 := HBd.out.below hb5; have hA5 := HAd.out.below hb5; have hA6 := hA5.set4' (hA5.notWay hB5.hp) g n cap oi oe va; have hB6 := hB5.set4' g n cap oi oe va; obtain ⟨W6, hW6⟩ : ∃ W6, (((w5.setCell ⟨w.heap.size, 0, none⟩ (.slice (some ⟨g, 0, none⟩) n cap)).setCell ⟨w.heap.size, 1, none⟩ (.int .i64 (oi : Int))).setCell ⟨w.heap.size, 2, none⟩ (.int .i64 (oe : Int))).setCell ⟨w.heap.size, 3, none⟩ (.int .i64 (va : Int)) = W6 := ⟨_, rfl⟩; rw [hW6] at hA6 hB6; have HA6 := hide hA6; have HB6 := hide hB6; obtain ⟨t0, t1, t2, t3⟩ := hB5.c; have tf0 := hB5.f 0; have tf1 := hB5.f 1; have tf2 := hB5.f 2; have tf3 := hB5.f 3; clear hA5 hB5 hA6 hB6 hb5; go_simp))) | fail
  all_goals
   have npq : ¬ w.heap.size + 1 = w.heap.size := by omega
   have npq2 : ¬ w.heap.size = w.heap.size + 1 := by omega
   obtain ⟨x0, x1, x2, x3⟩ := HB6.out.c
   obtain ⟨y0, y1, y2, y3⟩ := HB6.out.qc
   have yf0 := HB6.out.qf 0
   have yf1 := HB6.out.qf 1
   have yf2 := HB6.out.qf 2
   have yf3 := HB6.out.qf 3
   have xf1 := HB6.out.f 1
   have hB7 := HB6.out.setOi ((oi : Int) + 1)
   have hA7 := HA6.out.other (p := w.heap.size) (j := 1) (v := .int .i64 ((oi : Int) + 1)) (HA6.out.notWay HB6.out.hp)
   have HB7 := hide hB7
   have HA7 := hide hA7
   clear hB7 hA7
   go_wp2
   exact bodyPost_ret (results1 Tryz.results55 _ _ _ (w.heap.size + 1) _ rfl (way_out HB7.out g n cap ((oi : Int) + 1) oe va)) rfl ⟨g, n, cap, by rw [HE.out], (HA7.out).set4' ((HA7.out).notWay (HB7.out).hq) g n cap ((oi : Int) + 1) oe va, way_bel HB7.out g n cap ((oi : Int) + 1) oe va⟩
end Go.Proofs.YtfcoebbblfcdoaaGreatDoor

/- The document's behind, at embeddings and at initiators. -/
namespace Go.Proofs.YtfcoebbblfcdoaaGreatDoor
open Go.RowKit
set_option linter.unusedVariables false
set_option maxHeartbeats 2000000
set_option maxRecDepth 100000
theorem rbeh_20 {w : World} {st : List Ex.Ent} {g n cap : Nat} {oi oe va : Nat} {b : Int} {k : Nat} (h : WA w st g n cap) (hok : Ex.Ok b ⟨st, oi, oe, va⟩ k) (hb0 : 0 <= b) (hb1 : b <= 1) (hk : k <= 1000) (ao : Option Addr) (nc capc : Nat) (c : List Int) (hr : Row .i64 w ao nc capc c) (hnc : nc <= 300) (i : Nat) (hi : i < nc) (hx : c.getD i 0 = 20) :
  Calls Tryz.prog 55 #[.agg #[.slice (some ⟨g, 0, none⟩) n cap, .int .i64 (oi : Int), .int .i64 (oe : Int), .int .i64 (va : Int)], .slice ao nc capc, .int .i64 (i : Int)] w fun e w' => ∃ g' n' cap', e = .returned (.agg #[.slice (some ⟨g', 0, none⟩) n' cap', .int .i64 ((Ex.iso ⟨st, oi, oe, va⟩ (Ex.wo 20 (c.drop (i + 1)))).oi : Int), .int .i64 ((Ex.iso ⟨st, oi, oe, va⟩ (Ex.wo 20 (c.drop (i + 1)))).oe : Int), .int .i64 ((Ex.iso ⟨st, oi, oe, va⟩ (Ex.wo 20 (c.drop (i + 1)))).va : Int)]) /\ WA w' (Ex.iso ⟨st, oi, oe, va⟩ (Ex.wo 20 (c.drop (i + 1)))).st g' n' cap' /\ Below w.heap.size w w' := by
 have hlo := hok.ch.lo
 have hhi := hok.ch.hi (by omega)
 have hpos := hok.ch.pos
 have hcl := hok.ch.len
 have hkoi := hok.oi
 have hkoe := hok.oe
 have hkva : va <= 126 := by have h1 : va = Ex.cn st := hok.va; have h2 := Ex.cn_le st; simp only at hcl hhi hlo; omega
 simp only at hlo hhi hpos hcl hkoi hkoe
 have hln := h.len
 have hn0 : 0 < n := by omega
 have hn2 : n <= 200 := by omega
 obtain ⟨W, hW⟩ : ∃ W, (w.alloc (.cells #[.slice (some ⟨g, 0, none⟩) n cap, .int .i64 (oi : Int), .int .i64 (oe : Int), .int .i64 (va : Int)] 94)).alloc (.cells #[.slice none 0 0, .int .i64 0, .int .i64 0, .int .i64 0] 94) = W := ⟨_, rfl⟩
 have hB : WB w W w.heap.size (w.heap.size + 1) g n cap (oi : Int) (oe : Int) (va : Int) := by rw [<- hW]; exact WB.begin w g n cap oi oe va
 have hA : WA W st g n cap := h.below hB.bel
 have HA := hide hA
 have HB := hide hB
 have hfl := rfield_lv
 have hfo := rfield_ov
 have hfi := rfield_is
 have hrW := hr.below hB.bel
 have HRW := hide hrW
 obtain ⟨cb, off, rfl, hbl, hcc⟩ := hrW.cells (by omega)
 have ck : W.cell? ⟨cb, off + i, none⟩ = some (.int .i64 (c.getD i 0)) := hcc i (by rw [hr.len]; exact hi)
 rw [hx] at ck
 have hin : (i : Int) < (nc : Int) := by omega
 obtain ⟨p0, p1, p2, p3⟩ := hB.c
 obtain ⟨q0, q1, q2, q3⟩ := hB.qc
 have pf1 := hB.f 1
 have pf2 := hB.f 2
 have pf3 := hB.f 3
 have qf0 := hB.qf 0
 have qf1 := hB.qf 1
 have qf2 := hB.qf 2
 have qf3 := hB.qf 3
 have npq : ¬ w.heap.size + 1 = w.heap.size := by omega
 have npq2 : ¬ w.heap.size = w.heap.size + 1 := by omega
 have hAd : WA W.drew st g n cap := HA.out.below (Below.drew (Below.refl _ _))
 have hBd : WB w W.drew w.heap.size (w.heap.size + 1) g n cap (oi : Int) (oe : Int) (va : Int) := HB.out.below (Below.drew (Below.refl _ _))
 have HBd := hide hBd
 have HAd := hide hAd
 have HODD := hide (rodd_any _ nc capc c i W.drew (HRW.out.below (Below.drew (Below.refl _ _))) hnc hi)
 rw [hx] at HODD
 generalize Ex.wo 20 (c.drop (i + 1)) = o at *
 have hiso : Ex.iso ⟨st, oi, oe, va⟩ o = if Ex.can ⟨st, oi, oe, va⟩ o then ⟨⟨Ex.nl (Ex.hd st).lv o, 0, true⟩ :: st, oi, oe, va + 1⟩ else ⟨st, oi + 1, oe, va⟩ := rfl
 clear hcc hrW hr h hB hx hA hBd
 cases hc : Ex.can ⟨st, oi, oe, va⟩ o with
 | true =>
  have e1 : Ex.iso ⟨st, oi, oe, va⟩ o = ⟨⟨Ex.nl (Ex.hd st).lv o, 0, true⟩ :: st, oi, oe, va + 1⟩ := by rw [hiso, if_pos hc]
  rw [e1]
  obtain ⟨k1, k2, k3⟩ := Ex.can_true hc
  simp only at k1 k2 k3
  have HADD := hide (radd_yes' hAd hn0 hn2 (oi : Int) (oe : Int) (va : Int) (by omega) (by omega) o 0 true (by omega) hhi k1)
  have HE := hide (show ((va + 1 : Nat) : Int) = (va : Int) + 1 from by omega)
  clear e1 hiso hc k2 k3 hAd hok
  generalize Ex.nl (Ex.hd st).lv o = l at *
  go_enter Tryz.func55, Tryz.ntmps55
  go_upto_region 18 with fail
  clear q0 q1 q2 q3 pf1 pf2 pf3 qf0 qf1 qf2 qf3 hfl hfo hfi hlo hhi hpos hcl hn0 hn2 hln hW hbl hb0 hb1 npq npq2 HA HB HRW
  first | (go_region_law (first
   | (go_simp; go_at_call 86; refine HODD.out.mono ?_; rintro e w4 ⟨rfl, rfl⟩; go_simp)
   | (go_simp; go_at_call 85; refine HADD.out.mono ?_; rintro e w5 ⟨g5, c5, rfl, hA5, hb5⟩; have hB5 := HBd.out.below hb5; have hA6 := hA5.set4' (hA5.notWay hB5.hp) g5 (n + 1) c5 oi oe va; have hB6 := hB5.set4' g5 (n + 1) c5 oi oe va; obtain ⟨W6, hW6⟩ : ∃ W6, (((w5.setCell ⟨w.heap.size, 0, none⟩ (.slice (some ⟨g5, 0, none⟩) (n + 1) c5)).setCell ⟨w.heap.size, 1, none⟩ (.int .i64 (oi : Int))).setCell ⟨w.heap.size, 2, none⟩ (.int .i64 (oe : Int))).setCell ⟨w.heap.size, 3, none⟩ (.int .i64 (va : Int)) = W6 := ⟨_, rfl⟩; rw [hW6] at hA6 hB6; have HA6 := hide hA6; have HB6 := hide hB6; obtain ⟨t0, t1, t2, t3⟩ := hB5.c; have tf0 := hB5.f 0; have tf1 := hB5.f 1; have tf2 := hB5.f 2; have tf3 := hB5.f 3; clear hA5 hB5 hA6 hB6 hb5; go_simp))) | fail
  all_goals
   have npq : ¬ w.heap.size + 1 = w.heap.size := by omega
   have npq2 : ¬ w.heap.size = w.heap.size + 1 := by omega
   obtain ⟨x0, x1, x2, x3⟩ := HB6.out.c
   obtain ⟨y0, y1, y2, y3⟩ := HB6.out.qc
   have yf0 := HB6.out.qf 0
   have yf1 := HB6.out.qf 1
   have yf2 := HB6.out.qf 2
   have yf3 := HB6.out.qf 3
   have xf3 := HB6.out.f 3
   have hB7 := HB6.out.setVa ((va : Int) + 1)
   have hA7 := HA6.out.other (p := w.heap.size) (j := 3) (v := .int .i64 ((va : Int) + 1)) (HA6.out.notWay HB6.out.hp)
   have HB7 := hide hB7
   have HA7 := hide hA7
   clear hB7 hA7
   go_wp2
   exact bodyPost_ret (results1 Tryz.results55 _ _ _ (w.heap.size + 1) _ rfl (way_out HB7.out g5 (n + 1) c5 oi oe ((va : Int) + 1))) rfl ⟨g5, (n + 1), c5, by rw [HE.out], (HA7.out).set4' ((HA7.out).notWay (HB7.out).hq) g5 (n + 1) c5 oi oe ((va : Int) + 1), way_bel HB7.out g5 (n + 1) c5 oi oe ((va : Int) + 1)⟩
 | false =>
  have e1 : Ex.iso ⟨st, oi, oe, va⟩ o = ⟨st, oi + 1, oe, va⟩ := by rw [hiso, if_neg (by rw [hc]; decide)]
  rw [e1]
  have HADD := hide (radd_no hAd hn0 oi oe va o 0 true (by omega) hhi hc)
  have HE := hide (show ((oi + 1 : Nat) : Int) = (oi : Int) + 1 from by omega)
  clear e1 hiso hc hAd hok
  go_enter Tryz.func55, Tryz.ntmps55
  go_upto_region 18 with fail
  clear q0 q1 q2 q3 pf1 pf2 pf3 qf0 qf1 qf2 qf3 hfl hfo hfi hlo hhi hpos hcl hn0 hn2 hln hW hbl hb0 hb1 npq npq2 HA HB HRW
  first | (go_region_law (first
   | (go_simp; go_at_call 86; refine HODD.out.mono ?_; rintro e w4 ⟨rfl, rfl⟩; go_simp)
   | (go_simp; go_at_call 85; refine HADD.out.mono ?_; rintro e w5 ⟨rfl, hb5⟩; have hB5 := HBd.out.below hb5; have hA5 := HAd.out.below hb5; have hA6 := hA5.set4' (hA5.notWay hB5.hp) g n cap oi oe va; have hB6 := hB5.set4' g n cap oi oe va; obtain ⟨W6, hW6⟩ : ∃ W6, (((w5.setCell ⟨w.heap.size, 0, none⟩ (.slice (some ⟨g, 0, none⟩) n cap)).setCell ⟨w.heap.size, 1, none⟩ (.int .i64 (oi : Int))).setCell ⟨w.heap.size, 2, none⟩ (.int .i64 (oe : Int))).setCell ⟨w.heap.size, 3, none⟩ (.int .i64 (va : Int)) = W6 := ⟨_, rfl⟩; rw [hW6] at hA6 hB6; have HA6 := hide hA6; have HB6 := hide hB6; obtain ⟨t0, t1, t2, t3⟩ := hB5.c; have tf0 := hB5.f 0; have tf1 := hB5.f 1; have tf2 := hB5.f 2; have tf3 := hB5.f 3; clear hA5 hB5 hA6 hB6 hb5; go_simp))) | fail
  all_goals
   have npq : ¬ w.heap.size + 1 = w.heap.size := by omega
   have npq2 : ¬ w.heap.size = w.heap.size + 1 := by omega
   obtain ⟨x0, x1, x2, x3⟩ := HB6.out.c
   obtain ⟨y0, y1, y2, y3⟩ := HB6.out.qc
   have yf0 := HB6.out.qf 0
   have yf1 := HB6.out.qf 1
   have yf2 := HB6.out.qf 2
   have yf3 := HB6.out.qf 3
   have xf1 := HB6.out.f 1
   have hB7 := HB6.out.setOi ((oi : Int) + 1)
   have hA7 := HA6.out.other (p := w.heap.size) (j := 1) (v := .int .i64 ((oi : Int) + 1)) (HA6.out.notWay HB6.out.hp)
   have HB7 := hide hB7
   have HA7 := hide hA7
   clear hB7 hA7
   go_wp2
   exact bodyPost_ret (results1 Tryz.results55 _ _ _ (w.heap.size + 1) _ rfl (way_out HB7.out g n cap ((oi : Int) + 1) oe va)) rfl ⟨g, n, cap, by rw [HE.out], (HA7.out).set4' ((HA7.out).notWay (HB7.out).hq) g n cap ((oi : Int) + 1) oe va, way_bel HB7.out g n cap ((oi : Int) + 1) oe va⟩
end Go.Proofs.YtfcoebbblfcdoaaGreatDoor
