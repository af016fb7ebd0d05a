import Derived.Test.YtfcoebbblfcdoaaGreatDoorZ33
import Derived.Deep.RegionLaw
import Derived.Test.YtfcoebbblfcdoaaGreatDoorZ34
import Derived.Test.YtfcoebbblfcdoaaGreatDoorZ31
import Derived.Test.YtfcoebbblfcdoaaGreatDoorZ18
import Derived.Test.YtfcoebbblfcdoaaGreatDoorZ06
import Derived.WalkKit
import Derived.WalkSpells
import Derived.WalkLawsBesides
import Derived.Outline
import Derived.Great.BuildSlice
import Derived.Deep.QuietTactic
import Derived.BigQuiet
/- The document's behind, at embeddings and at initiators. -/
namespace Go.Proofs.YtfcoebbblfcdoaaGreatDoor
open Go.RowKit
set_option linter.unusedVariables false
set_option maxHeartbeats 2000000
set_option maxRecDepth 100000
theorem rbeh_22 {w : World} {st : List Ex.Ent} {g n cap : Nat} {oi oe va : Nat} {b : Int} {k : Nat} (h : WA w st g n cap) (hok : Ex.Ok b ⟨st, oi, oe, va⟩ k) (hb0 : 0 <= b) (hb1 : b <= 1) (hk : k <= 1000) (ao : Option Addr) (nc capc : Nat) (c : List Int) (hr : Row .i64 w ao nc capc c) (hnc : nc <= 300) (i : Nat) (hi : i < nc) (hx : c.getD i 0 = 22) :
  Calls Tryz.prog 55 #[.agg #[.slice (some ⟨g, 0, none⟩) n cap, .int .i64 (oi : Int), .int .i64 (oe : Int), .int .i64 (va : Int)], .slice ao nc capc, .int .i64 (i : Int)] w fun e w' => ∃ g' n' cap', e = .returned (.agg #[.slice (some ⟨g', 0, none⟩) n' cap', .int .i64 ((Ex.iso ⟨st, oi, oe, va⟩ (Ex.wo 22 (c.drop (i + 1)))).oi : Int), .int .i64 ((Ex.iso ⟨st, oi, oe, va⟩ (Ex.wo 22 (c.drop (i + 1)))).oe : Int), .int .i64 ((Ex.iso ⟨st, oi, oe, va⟩ (Ex.wo 22 (c.drop (i + 1)))).va : Int)]) /\ WA w' (Ex.iso ⟨st, oi, oe, va⟩ (Ex.wo 22 (c.drop (i + 1)))).st g' n' cap' /\ Below w.heap.size w w' := by
 have hlo := hok.ch.lo
 have hhi := hok.ch.hi (by omega)
 have hpos := hok.ch.pos
 have hcl := hok.ch.len
 have hkoi := hok.oi
 have hkoe := hok.oe
 have hkva : va <= 126 := by have h1 : va = Ex.cn st := hok.va; have h2 := Ex.cn_le st; simp only at hcl hhi hlo; omega
 simp only at hlo hhi hpos hcl hkoi hkoe
 have hln := h.len
 have hn0 : 0 < n := by omega
 have hn2 : n <= 200 := by omega
 obtain ⟨W, hW⟩ : ∃ W, (w.alloc (.cells #[.slice (some ⟨g, 0, none⟩) n cap, .int .i64 (oi : Int), .int .i64 (oe : Int), .int .i64 (va : Int)] 94)).alloc (.cells #[.slice none 0 0, .int .i64 0, .int .i64 0, .int .i64 0] 94) = W := ⟨_, rfl⟩
 have hB : WB w W w.heap.size (w.heap.size + 1) g n cap (oi : Int) (oe : Int) (va : Int) := by rw [<- hW]; exact WB.begin w g n cap oi oe va
 have hA : WA W st g n cap := h.below hB.bel
 have HA := hide hA
 have HB := hide hB
 have hfl := rfield_lv
 have hfo := rfield_ov
 have hfi := rfield_is
 have hrW := hr.below hB.bel
 have HRW := hide hrW
 obtain ⟨cb, off, rfl, hbl, hcc⟩ := hrW.cells (by omega)
 have ck : W.cell? ⟨cb, off + i, none⟩ = some (.int .i64 (c.getD i 0)) := hcc i (by rw [hr.len]; exact hi)
 rw [hx] at ck
 have hin : (i : Int) < (nc : Int) := by omega
 obtain ⟨p0, p1, p2, p3⟩ := hB.c
 obtain ⟨q0, q1, q2, q3⟩ := hB.qc
 have pf1 := hB.f 1
 have pf2 := hB.f 2
 have pf3 := hB.f 3
 have qf0 := hB.qf 0
 have qf1 := hB.qf 1
 have qf2 := hB.qf 2
 have qf3 := hB.qf 3
 have npq : ¬ w.heap.size + 1 = w.heap.size := by omega
 have npq2 : ¬ w.heap.size = w.heap.size + 1 := by omega
 have hAd : WA W.drew st g n cap := HA.out.below (Below.drew (Below.refl _ _))
 have hBd : WB w W.drew w.heap.size (w.heap.size + 1) g n cap (oi : Int) (oe : Int) (va : Int) := HB.out.below (Below.drew (Below.refl _ _))
 have HBd := hide hBd
 have HAd := hide hAd
 have HODD := hide (rodd_any _ nc capc c i W.drew (HRW.out.below (Below.drew (Below.refl _ _))) hnc hi)
 rw [hx] at HODD
 generalize Ex.wo 22 (c.drop (i + 1)) = o at *
 have hiso : Ex.iso ⟨st, oi, oe, va⟩ o = if Ex.can ⟨st, oi, oe, va⟩ o then ⟨⟨Ex.nl (Ex.hd st).lv o, 0, true⟩ :: st, oi, oe, va + 1⟩ else ⟨st, oi + 1, oe, va⟩ := rfl
 clear hcc hrW hr h hB hx hA hBd
 cases hc : Ex.can ⟨st, oi, oe, va⟩ o with
 | true =>
  have e1 : Ex.iso ⟨st, oi, oe, va⟩ o = ⟨⟨Ex.nl (Ex.hd st).lv o, 0, true⟩ :: st, oi, oe, va + 1⟩ := by rw [hiso, if_pos hc]
  rw [e1]
  obtain ⟨k1, k2, k3⟩ := Ex.can_true hc
  simp only at k1 k2 k3
  have HADD := hide (radd_yes' hAd hn0 hn2 (oi : Int) (oe : Int) (va : Int) (by omega) (by omega) o 0 true (by omega) hhi k1)
  have HE := hide (show ((va + 1 : Nat) : Int) = (va : Int) + 1 from by omega)
  clear e1 hiso hc k2 k3 hAd hok
  generalize Ex.nl (Ex.hd st).lv o = l at *
  go_enter Tryz.func55, Tryz.ntmps55
  go_upto_region 18 with fail
  clear q0 q1 q2 q3 pf1 pf2 pf3 qf0 qf1 qf2 qf3 hfl hfo hfi hlo hhi hpos hcl hn0 hn2 hln hW hbl hb0 hb1 npq npq2 HA HB HRW
  first | (go_region_law (first
   | (go_simp; go_at_call 86; refine HODD.out.mono ?_; rintro e w4 ⟨rfl, rfl⟩; go_simp)
   | (go_simp; go_at_call 85; refine HADD.out.mono ?_; rintro e w5 ⟨g5, c5, rfl, hA5, hb5⟩; have hB5 := HBd.out.below hb5; have hA6 := hA5.set4' (hA5.notWay hB5.hp) g5 (n + 1) c5 oi oe va; have hB6 := hB5.set4' g5 (n + 1) c5 oi oe va; obtain ⟨W6, hW6⟩ : ∃ W6, (((w5.setCell ⟨w.heap.size, 0, none⟩ (.slice (some ⟨g5, 0, none⟩) (n + 1) c5)).setCell ⟨w.heap.size, 1, none⟩ (.int .i64 (oi : Int))).setCell ⟨w.heap.size, 2, none⟩ (.int .i64 (oe : Int))).setCell ⟨w.heap.size, 3, none⟩ (.int .i64 (va : Int)) = W6 := ⟨_, rfl⟩; rw [hW6] at hA6 hB6; have HA6 := hide hA6; have HB6 := hide hB6; obtain ⟨t0, t1, t2, t3⟩ := hB5.c; have tf0 := hB5.f 0; have tf1 := hB5.f 1; have tf2 := hB5.f 2; have tf3 := hB5.f 3; clear hA5 hB5 hA6 hB6 hb5; go_simp))) | fail
  all_goals
   have npq : ¬ w.heap.size + 1 = w.heap.size := by omega
   have npq2 : ¬ w.heap.size = w.heap.size + 1 := by omega
   obtain ⟨x0, x1, x2, x3⟩ := HB6.out.c
   obtain ⟨y0, y1, y2, y3⟩ := HB6.out.qc
   have yf0 := HB6.out.qf 0
   have yf1 := HB6.out.qf 1
   have yf2 := HB6.out.qf 2
   have yf3 := HB6.out.qf 3
   have xf3 := HB6.out.f 3
   have hB7 := HB6.out.setVa ((va : Int) + 1)
   have hA7 := HA6.out.other (p := w.heap.size) (j := 3) (v := .int .i64 ((va : Int) + 1)) (HA6.out.notWay HB6.out.hp)
   have HB7 := hide hB7
   have HA7 := hide hA7
   clear hB7 hA7
   go_wp2
   exact bodyPost_ret (results1 Tryz.results55 _ _ _ (w.heap.size + 1) _ rfl (way_out HB7.out g5 (n + 1) c5 oi oe ((va : Int) + 1))) rfl ⟨g5, (n + 1), c5, by rw [HE.out], (HA7.out).set4' ((HA7.out).notWay (HB7.out).hq) g5 (n + 1) c5 oi oe ((va : Int) + 1), way_bel HB7.out g5 (n + 1) c5 oi oe ((va : Int) + 1)⟩
 | false =>
  have e1 : Ex.iso ⟨st, oi, oe, va⟩ o = ⟨st, oi + 1, oe, va⟩ := by rw [hiso, if_neg (by rw [hc]; decide)]
  rw [e1]
  have HADD := hide (radd_no hAd hn0 oi oe va o 0 true (by omega) hhi hc)
  have HE := hide (show ((oi + 1 : Nat) : Int) = (oi : Int) + 1 from by omega)
  clear e1 hiso hc hAd hok
  go_enter Tryz.func55, Tryz.ntmps55
  go_upto_region 18 with fail
  clear q0 q1 q2 q3 pf1 pf2 pf3 qf0 qf1 qf2 qf3 hfl hfo hfi hlo hhi hpos hcl hn0 hn2 hln hW hbl hb0 hb1 npq npq2 HA HB HRW
  first | (go_region_law (first
   | (go_simp; go_at_call 86; refine HODD.out.mono ?_; rintro e w4 ⟨rfl, rfl⟩; go_simp)
   | (go_simp; go_at_call 85; refine HADD.out.mono ?_; rintro e w5 ⟨rfl, hb5⟩; have hB5 := HBd.out.below hb5; have hA5 := HAd.out.below hb5; have hA6 := hA5.set4' (hA5.notWay hB5.hp) g n cap oi oe va; have hB6 := hB5.set4' g n cap oi oe va; obtain ⟨W6, hW6⟩ : ∃ W6, (((w5.setCell ⟨w.heap.size, 0, none⟩ (.slice (some ⟨g, 0, none⟩) n cap)).setCell ⟨w.heap.size, 1, none⟩ (.int .i64 (oi : Int))).setCell ⟨w.heap.size, 2, none⟩ (.int .i64 (oe : Int))).setCell ⟨w.heap.size, 3, none⟩ (.int .i64 (va : Int)) = W6 := ⟨_, rfl⟩; rw [hW6] at hA6 hB6; have HA6 := hide hA6; have HB6 := hide hB6; obtain ⟨t0, t1, t2, t3⟩ := hB5.c; have tf0 := hB5.f 0; have tf1 := hB5.f 1; have tf2 := hB5.f 2; have tf3 := hB5.f 3; clear hA5 hB5 hA6 hB6 hb5; go_simp))) | fail
  all_goals
   have npq : ¬ w.heap.size + 1 = w.heap.size := by omega
   have npq2 : ¬ w.heap.size = w.heap.size + 1 := by omega
   obtain ⟨x0, x1, x2, x3⟩ := HB6.out.c
   obtain ⟨y0, y1, y2, y3⟩ := HB6.out.qc
   have yf0 := HB6.out.qf 0
   have yf1 := HB6.out.qf 1
   have yf2 := HB6.out.qf 2
   have yf3 := HB6.out.qf 3
   have xf1 := HB6.out.f 1
   have hB7 := HB6.out.setOi ((oi : Int) + 1)
   have hA7 := HA6.out.other (p := w.heap.size) (j := 1) (v := .int .i64 ((oi : Int) + 1)) (HA6.out.notWay HB6.out.hp)
   have HB7 := hide hB7
   have HA7 := hide hA7
   clear hB7 hA7
   go_wp2
   exact bodyPost_ret (results1 Tryz.results55 _ _ _ (w.heap.size + 1) _ rfl (way_out HB7.out g n cap ((oi : Int) + 1) oe va)) rfl ⟨g, n, cap, by rw [HE.out], (HA7.out).set4' ((HA7.out).notWay (HB7.out).hq) g n cap ((oi : Int) + 1) oe va, way_bel HB7.out g n cap ((oi : Int) + 1) oe va⟩
end Go.Proofs.YtfcoebbblfcdoaaGreatDoor

/- The document's behind as one; ahead; Formed. -/
namespace Go.Proofs.YtfcoebbblfcdoaaGreatDoor
open Go.RowKit
set_option linter.unusedVariables false
set_option maxHeartbeats 2000000
set_option maxRecDepth 100000
theorem rbehind_any {w : World} {st : List Ex.Ent} {g n cap : Nat} {oi oe va : Nat} {b : Int} {k : Nat} (h : WA w st g n cap) (hok : Ex.Ok b ⟨st, oi, oe, va⟩ k) (hb0 : 0 <= b) (hb1 : b <= 1) (hk : k <= 1000) (ao : Option Addr) (nc capc : Nat) (c : List Int) (hr : Row .i64 w ao nc capc c) (hnc : nc <= 300) (i : Nat) (hi : i < nc) (S : Ex.St) (hS : Ex.step ⟨st, oi, oe, va⟩ (c.getD i 0) (c.drop (i + 1)) = S) :
  Calls Tryz.prog 55 #[.agg #[.slice (some ⟨g, 0, none⟩) n cap, .int .i64 (oi : Int), .int .i64 (oe : Int), .int .i64 (va : Int)], .slice ao nc capc, .int .i64 (i : Int)] w fun e w' => ∃ g' n' cap', e = .returned (.agg #[.slice (some ⟨g', 0, none⟩) n' cap', .int .i64 (S.oi : Int), .int .i64 (S.oe : Int), .int .i64 (S.va : Int)]) /\ WA w' S.st g' n' cap' /\ Below w.heap.size w w' := by
 by_cases h17 : c.getD i 0 = 17
 ·have := rbeh_17 h hok hb0 hb1 hk ao nc capc c hr hnc i hi h17
  rw [h17] at hS; subst hS; exact this
 by_cases h15 : c.getD i 0 = 15
 ·have := rbeh_15 h hok hb0 hb1 hk ao nc capc c hr hnc i hi h15
  rw [h15] at hS; subst hS; exact this
 by_cases h18 : c.getD i 0 = 18
 ·have := rbeh_18 h hok hb0 hb1 hk ao nc capc c hr hnc i hi h18
  rw [h18] at hS; subst hS; exact this
 by_cases h16 : c.getD i 0 = 16
 ·have := rbeh_16 h hok hb0 hb1 hk ao nc capc c hr hnc i hi h16
  rw [h16] at hS; subst hS; exact this
 by_cases h19 : c.getD i 0 = 19
 ·have := rbeh_pdf h hok hb0 hb1 hk ao nc capc c hr hnc i hi h19
  rw [h19] at hS; subst hS; exact this
 by_cases h23 : c.getD i 0 = 23
 ·have := rbeh_pdi h hok hb0 hb1 hk ao nc capc c hr hnc i hi h23
  rw [h23] at hS; subst hS; exact this
 by_cases h21 : c.getD i 0 = 21
 ·have := rbeh_21 h hok hb0 hb1 hk ao nc capc c hr hnc i hi h21
  rw [h21] at hS; subst hS; exact this
 by_cases h20 : c.getD i 0 = 20
 ·have := rbeh_20 h hok hb0 hb1 hk ao nc capc c hr hnc i hi h20
  rw [h20] at hS; subst hS; exact this
 by_cases h22 : c.getD i 0 = 22
 ·have := rbeh_22 h hok hb0 hb1 hk ao nc capc c hr hnc i hi h22
  rw [h22] at hS; subst hS; exact this
 have := rbeh_other h hok hb0 hb1 hk ao nc capc c hr hnc i hi (c.getD i 0) rfl ⟨h17, h15, h18, h16, h19, h23, h20, h21, h22⟩
 rw [step_other ⟨h17, h15, h18, h16, h19, h23⟩ ⟨h20, h21, h22⟩] at hS
 subst hS
 exact this
end Go.Proofs.YtfcoebbblfcdoaaGreatDoor

/- The document's ahead and Formed. -/
namespace Go.Proofs.YtfcoebbblfcdoaaGreatDoor
open Go.RowKit
set_option linter.unusedVariables false
set_option maxHeartbeats 2000000
set_option maxRecDepth 100000
theorem rformed_any (ao : Option Addr) (n cap : Nat) (c : List Int) (w : World) (h : Row .i64 w ao n cap c) (hn : n <= 300) (F : Bool) (hF : F = true ↔ Ex.Formed c) :
  Calls Tryz.prog 50 #[.slice ao n cap] w fun e w' => e = .returned (.bool F) /\ w = w' := by
 have H := hide h
 have HL := hide h.len
 have HF := hide hF
 clear h hF
 go_enter Tryz.func50, Tryz.ntmps50
 go_wp2
 go_loopw [3] (fun s3 wr => ∃ k : Nat, k <= n /\ s3 = .int .i64 (k : Int) /\ Hid (∀ i, i < k -> 1 <= c.getD i 0 /\ c.getD i 0 <= 23 /\ (c.getD i 0 = 11 -> i + 1 = n)) /\ w = wr) (fun s3 _ => n - (intOf s3).toNat)
 case atStart => exact ⟨0, Nat.zero_le _, rfl, hide (fun i hi => by omega), rfl⟩
 case round =>
  obtain ⟨k, hk, rfl, hall, rfl⟩ := hrel
  by_cases hlt : k < n
  ·obtain ⟨b, off, rfl, hbl, hc⟩ := H.out.cells (by omega)
   have ck : w.cell? ⟨b, off + k, none⟩ = some (.int .i64 (c.getD k 0)) := hc k (by rw [HL.out]; exact hlt)
   have hin : (k : Int) < (n : Int) := by omega
   have HNO := hide (fun (hbad : ¬ (1 <= c.getD k 0 /\ c.getD k 0 <= 23 /\ (c.getD k 0 = 11 -> k + 1 = n))) => (show F = false from by
    cases hf : F with
    | false => rfl
    | true =>
     have h1 := HF.out.1 hf k (by rw [HL.out]; exact hlt)
     rw [HL.out] at h1
     exact absurd h1 hbad))
   have HYES := hide (fun (hgood : 1 <= c.getD k 0 /\ c.getD k 0 <= 23 /\ (c.getD k 0 = 11 -> k + 1 = n)) => (show ∀ i, i < k + 1 -> 1 <= c.getD i 0 /\ c.getD i 0 <= 23 /\ (c.getD i 0 = 11 -> i + 1 = n) from fun i hi => by
    by_cases hik : i = k
    ·subst hik; exact hgood
    ·exact hall.out i (by omega)))
   generalize c.getD k 0 = x at *
   clear hc hall
   by_cases h1 : x < 1
   ·have HE := hide (HNO.out (fun h => by omega))
    clear HNO HYES
    go_wp2
    go_ret
    exact ⟨ret_bool HE.out.symm, rfl⟩
   ·by_cases h2 : 23 < x
    ·have HE := hide (HNO.out (fun h => by omega))
     clear HNO HYES
     go_wp2
     go_ret
     exact ⟨ret_bool HE.out.symm, rfl⟩
    ·by_cases h3 : x = 11
     ·by_cases h4 : (k : Int) < (n : Int) - 1
      ·have HE := hide (HNO.out (fun h => by have := h.2.2 h3; omega))
       clear HNO HYES
       subst h3
       go_wp2
       go_ret
       exact ⟨ret_bool HE.out.symm, rfl⟩
      ·have HE := hide (HYES.out ⟨by omega, by omega, fun _ => by omega⟩)
       clear HNO HYES
       subst h3
       go_wp2
       go_roundw
       case rel => exact ⟨k + 1, by omega, by go_num, HE, trivial⟩
       case measure => simp [intOf]; omega
     ·have HE := hide (HYES.out ⟨by omega, by omega, fun h => absurd h h3⟩)
      have h3' : (x == 11) = false := beq_false_of_ne h3
      clear HNO HYES
      go_wp2
      go_roundw
      case rel => exact ⟨k + 1, by omega, by go_num, HE, trivial⟩
      case measure => simp [intOf]; omega
  ·obtain rfl : k = n := by omega
   have hne : ¬ ((k : Int) < (k : Int)) := by omega
   have HE := hide (show F = true from HF.out.2 (fun i hi => by rw [HL.out] at hi ⊢; exact hall.out i hi))
   clear hall
   go_wp2
   go_ret
   exact ⟨ret_bool HE.out.symm, rfl⟩
def Hd (w wr : World) (p q : Nat) (S : Ex.St) : Prop := ∃ g n cap, WB w wr p q g n cap (S.oi : Int) (S.oe : Int) (S.va : Int) /\ WA wr S.st g n cap
theorem hd_begin (w : World) (b : Int) : Hd w (((w.alloc (.cells #[.slice none 0 0, .int .i64 0, .int .i64 0, .int .i64 0] 94)).alloc (.cells #[.int .i64 b, .int .i64 0, .bool false] 98)).alloc (.cells #[.slice (some ⟨w.heap.size + 1, 0, none⟩) 1 1, .int .i64 0, .int .i64 0, .int .i64 0] 94)) (w.heap.size + 2) w.heap.size (Ex.s0 b) := by
 obtain ⟨V, hV⟩ : ∃ V, w.alloc (.cells #[.slice none 0 0, .int .i64 0, .int .i64 0, .int .i64 0] 94) = V := ⟨_, rfl⟩
 have hs : V.heap.size = w.heap.size + 1 := by rw [<- hV]; simp
 have h0 : V.heap[w.heap.size]? = some (.cells #[.slice none 0 0, .int .i64 0, .int .i64 0, .int .i64 0] 94 (0, 0)) := by rw [<- hV]; exact heap_alloc_last w _
 have hbV : Below w.heap.size w V := by rw [<- hV]; exact Below.alloc (Below.refl _ _) (Nat.le_refl _) _
 rw [hV]
 have hbb : Below V.heap.size V ((V.alloc (.cells #[.int .i64 b, .int .i64 0, .bool false] 98)).alloc (.cells #[.slice (some ⟨w.heap.size + 1, 0, none⟩) 1 1, .int .i64 0, .int .i64 0, .int .i64 0] 94)) := Below.alloc (Below.alloc (Below.refl _ _) (Nat.le_refl _) _) (by simp) _
 have ho := heap_alloc2_old V (.cells #[.int .i64 b, .int .i64 0, .bool false] 98) (.cells #[.slice (some ⟨w.heap.size + 1, 0, none⟩) 1 1, .int .i64 0, .int .i64 0, .int .i64 0] 94)
 have hn := heap_alloc2_new V (.cells #[.int .i64 b, .int .i64 0, .bool false] 98) (.cells #[.slice (some ⟨w.heap.size + 1, 0, none⟩) 1 1, .int .i64 0, .int .i64 0, .int .i64 0] 94)
 rw [hs] at ho hn
 refine ⟨w.heap.size + 1, 1, 1, ⟨hn, (hbb.block w.heap.size (by omega)).trans h0, by omega, by omega, hbV.trans (hbb.mono (by omega))⟩, ?_⟩
 refine ⟨rfl, .inr ⟨w.heap.size + 1, 1, #[.int .i64 b, .int .i64 0, .bool false], rfl, Nat.zero_le _, ho, Nat.le_refl _, by unfold maxLen; omega, rfl, by simp [Ex.s0, Ex.bot, ents, ec]⟩⟩
theorem rbuild_bot (l : Int) (w : World) : (Instr.build 98 #[(0, .int .i64 l), (1, .int .i64 0), (2, .bool false)]).run Tryz.prog w = .ok (.agg #[.int .i64 l, .int .i64 0, .bool false]) w := run_build w 98 _ _ (by kernel_rfl)
theorem rbuild_way (v : Option Addr) (n cap : Nat) (w : World) : (Instr.build 94 #[(0, .slice v n cap)]).run Tryz.prog w = .ok (.agg #[.slice v n cap, .int .i64 0, .int .i64 0, .int .i64 0]) w := run_build w 94 _ _ (by kernel_rfl)
theorem rahead_any (ao : Option Addr) (n cap0 : Nat) (c : List Int) (b : Int) (i : Nat) (w : World) (h : Row .i64 w ao n cap0 c) (hn : n <= 300) (hb0 : 0 <= b) (hb1 : b <= 1) (hi : i <= n) :
  Calls Tryz.prog 54 #[.slice ao n cap0, .int .i64 b, .int .i64 (i : Int)] w fun e w' => ∃ g' n' cap', e = .returned (.agg #[.slice (some ⟨g', 0, none⟩) n' cap', .int .i64 ((Ex.at' (Ex.s0 b) c i).oi : Int), .int .i64 ((Ex.at' (Ex.s0 b) c i).oe : Int), .int .i64 ((Ex.at' (Ex.s0 b) c i).va : Int)]) /\ WA w' (Ex.at' (Ex.s0 b) c i).st g' n' cap' /\ Below w.heap.size w w' := by
 have HH := hide (hd_begin w b)
 have H := hide h
 have HL := hide h.len
 have hbd := rbuild_bot
 have hbo := rbuild_ent1
 have hbw := rbuild_way
 clear h
 go_enter Tryz.func54, Tryz.ntmps54
 go_wp2_with fail
 go_loopw [8] (fun s8 wr => ∃ k : Nat, k <= i /\ s8 = .int .i64 (k : Int) /\ Hid (Hd w wr (w.heap.size + 2) w.heap.size (Ex.at' (Ex.s0 b) c k))) (fun s8 _ => i - (intOf s8).toNat)
 case atStart => exact ⟨0, Nat.zero_le _, rfl, HH⟩
 case round =>
  clear HH
  obtain ⟨k, hk, rfl, hh⟩ := hrel
  obtain ⟨g, n', cap', hB, hA⟩ := hh.out
  have hok : Ex.Ok b (Ex.at' (Ex.s0 b) c k) k := Ex.Ok.at c k
  have npq : ¬ w.heap.size + 2 = w.heap.size := by omega
  have npq2 : ¬ w.heap.size = w.heap.size + 2 := by omega
  by_cases hlt : k < i
  ·have hin : (k : Int) < (i : Int) := by omega
   have HBH := hide (rbehind_any (S := Ex.at' (Ex.s0 b) c (k + 1)) hA hok hb0 hb1 (by omega) ao n cap0 c (H.out.below hB.bel) hn k (by omega) rfl)
   obtain ⟨p0, p1, p2, p3⟩ := hB.c
   have HB := hide hB
   obtain ⟨S', hS'⟩ : ∃ S', Ex.at' (Ex.s0 b) c (k + 1) = S' := ⟨_, rfl⟩
   rw [hS'] at HBH
   have HSS := hide hS'
   clear hB hA hok hh hS'
   go_wp2_with fail
   refine HBH.out.mono ?_
   rintro e w4 ⟨g4, n4, c4, rfl, hA4, hb4⟩
   have hB4 := HB.out.below hb4
   obtain ⟨t0, t1, t2, t3⟩ := hB4.c
   have tf0 := hB4.f 0
   have tf1 := hB4.f 1
   have tf2 := hB4.f 2
   have tf3 := hB4.f 3
   have HF := hide (show Hd w _ (w.heap.size + 2) w.heap.size S' from ⟨g4, n4, c4, hB4.set4' g4 n4 c4 (S'.oi : Int) (S'.oe : Int) (S'.va : Int), hA4.set4' (hA4.notWay hB4.hp) g4 n4 c4 (S'.oi : Int) (S'.oe : Int) (S'.va : Int)⟩)
   clear hB4 hA4 hb4 HBH HB p0 p1 p2 p3
   go_wp2
   go_roundw
   case rel => exact ⟨k + 1, by omega, by go_num, hide (by rw [HSS.out]; exact HF.out)⟩
   case measure => simp [intOf]; omega
  ·obtain rfl : k = i := by omega
   have hne : ¬ ((k : Int) < (k : Int)) := by omega
   obtain ⟨p0, p1, p2, p3⟩ := hB.c
   obtain ⟨q0, q1, q2, q3⟩ := hB.qc
   have qf0 := hB.qf 0
   have qf1 := hB.qf 1
   have qf2 := hB.qf 2
   have qf3 := hB.qf 3
   have HB := hide hB
   have HA := hide hA
   obtain ⟨S, hS⟩ : ∃ S, Ex.at' (Ex.s0 b) c k = S := ⟨_, rfl⟩
   have HSS := hide hS
   rw [hS] at HB HA p1 p2 p3
   clear hB hA hok hh hS
   go_wp2
   exact bodyPost_ret (results1 Tryz.results54 _ _ _ w.heap.size _ rfl (way_out HB.out g n' cap' (S.oi : Int) (S.oe : Int) (S.va : Int))) rfl ⟨g, n', cap', by rw [HSS.out], by rw [HSS.out]; exact HA.out.set4' (HA.out.notWay HB.out.hq) g n' cap' (S.oi : Int) (S.oe : Int) (S.va : Int), way_bel HB.out g n' cap' (S.oi : Int) (S.oe : Int) (S.va : Int)⟩
end Go.Proofs.YtfcoebbblfcdoaaGreatDoor

/- What the document says is wrong with a paragraph. -/
namespace Go.Proofs.YtfcoebbblfcdoaaGreatDoor
open Go.RowKit
set_option linter.unusedVariables false
set_option maxHeartbeats 1000000
set_option maxRecDepth 100000
def WA12 (l : List Int) (base E : Int) : Prop := (¬ Rn.BB base /\ E = 2) \/ (Rn.BB base /\ 4096 < l.length /\ E = 3) \/ (Rn.BB base /\ l.length <= 300 /\ ¬ Ex.Formed (Rn.cl l) /\ E = 50) \/ (Rn.BB base /\ l.length <= 300 /\ Ex.Formed (Rn.cl l) /\ E = 0)
theorem bb_cases (base : Int) : (Rn.BB base /\ ¬ base < -1 /\ ¬ 1 < base) \/ (¬ Rn.BB base /\ base < -1) \/ (¬ Rn.BB base /\ ¬ base < -1 /\ 1 < base) := by
 unfold Rn.BB
 omega
theorem rwrong12_any (ao : Option Addr) (n cap : Nat) (l : List Int) (base E : Int) (w : World) (h : Row .i32 w ao n cap l) (hf : ∀ x ∈ l, (Lit.int .i32 x).wf = true) (hA : WA12 l base E) :
  Calls Tryz.prog 31 #[.slice ao n cap, .int .i64 base] w fun e w' => e = .returned (.int .i64 E) /\ KO w w' := by
 have hl := h.len
 rcases bb_cases base with ⟨hb, h1, h2⟩ | ⟨hb, h1⟩ | ⟨hb, h1, h2⟩
 ·by_cases hbig : 4096 < n
  ·have hE : E = 3 := by
    rcases hA with ⟨q, _⟩ | ⟨_, _, q⟩ | ⟨_, q, _⟩ | ⟨_, q, _⟩
    ·exact absurd hb q
    ·exact q
    ·omega
    ·omega
   subst hE
   have hbig2 : (4096 : Int) < (n : Int) := by omega
   clear h hf hA hl hb
   go_enter Tryz.func31, Tryz.ntmps31
   go_wp2
   go_ret
   exact ⟨rfl, KO.refl _⟩
  ·have hbig2 : ¬ (4096 : Int) < (n : Int) := by omega
   have hE : n <= 300 /\ ((¬ Ex.Formed (Rn.cl l) /\ E = 50) \/ (Ex.Formed (Rn.cl l) /\ E = 0)) := by
    rcases hA with ⟨q, _⟩ | ⟨_, q, _⟩ | ⟨_, q1, q2, q3⟩ | ⟨_, q1, q2, q3⟩
    ·exact absurd hb q
    ·omega
    ·exact ⟨by omega, .inl ⟨q2, q3⟩⟩
    ·exact ⟨by omega, .inr ⟨q2, q3⟩⟩
   obtain ⟨hn, hE⟩ := hE
   have HC := hide (rclasses_any ao n cap l w h hf (by omega))
   clear h hf hA hb
   rcases hE with ⟨hF, rfl⟩ | ⟨hF, rfl⟩
   ·have HF := hide (fun a1 c1 w1 (h1 : Row .i64 w1 a1 n c1 (Rn.cl l)) => rformed_any a1 n c1 (Rn.cl l) w1 h1 hn false (by simp [hF]))
    clear hF
    go_enter Tryz.func31, Tryz.ntmps31
    go_wp2_with fail
    refine HC.out.mono ?_
    rintro e w1 ⟨a1, c1, rfl, hr, hk⟩
    have HF1 := hide (HF.out a1 c1 w1 hr)
    have HK := hide hk
    clear hr hk HF
    go_wp2_with (go_at_call 50; refine HF1.out.mono ?_; rintro e w2 ⟨rfl, rfl⟩)
    go_ret
    exact ⟨rfl, HK.out⟩
   ·have HF := hide (fun a1 c1 w1 (h1 : Row .i64 w1 a1 n c1 (Rn.cl l)) => rformed_any a1 n c1 (Rn.cl l) w1 h1 hn true (by simp [hF]))
    clear hF
    go_enter Tryz.func31, Tryz.ntmps31
    go_wp2_with fail
    refine HC.out.mono ?_
    rintro e w1 ⟨a1, c1, rfl, hr, hk⟩
    have HF1 := hide (HF.out a1 c1 w1 hr)
    have HK := hide hk
    clear hr hk HF
    go_wp2_with (go_at_call 50; refine HF1.out.mono ?_; rintro e w2 ⟨rfl, rfl⟩)
    go_ret
    exact ⟨rfl, HK.out⟩
 ·have hE : E = 2 := by
   rcases hA with ⟨_, q⟩ | ⟨q, _⟩ | ⟨q, _⟩ | ⟨q, _⟩
   ·exact q
   all_goals exact absurd q hb
  subst hE
  clear h hf hA hb hl
  go_enter Tryz.func31, Tryz.ntmps31
  go_wp2
  go_ret
  exact ⟨rfl, KO.refl _⟩
 ·have hE : E = 2 := by
   rcases hA with ⟨_, q⟩ | ⟨q, _⟩ | ⟨q, _⟩ | ⟨q, _⟩
   ·exact q
   all_goals exact absurd q hb
  subst hE
  clear h hf hA hb hl
  go_enter Tryz.func31, Tryz.ntmps31
  go_wp2
  go_ret
  exact ⟨rfl, KO.refl _⟩
end Go.Proofs.YtfcoebbblfcdoaaGreatDoor

/- The document's own brackets and mirror images (colophonref03): contracts; the walk of UcdMarks. -/
namespace Go.Proofs.YtfcoebbblfcdoaaGreatDoor
open Go.RowKit Go.Maps
set_option linter.unusedVariables false
set_option maxHeartbeats 1000000
set_option maxRecDepth 100000
theorem belowN {B n : Nat} {w w' : World} (h : Below B w w') : Below B w (w'.drewN n) := ⟨h.os, h.tape, h.output, h.size, h.block⟩
theorem info21 : (Tryz.prog.info? 21).map (fun i => (i.zero, i.size, i.bytes)) = some (some (.int .i32 0), 1, 4) := by kernel_rfl
theorem owns_new (w : World) (e : TypeId) (k : IntKind) (zs : List Int) (n : Nat) (hn : zs.length = n) (hm : n <= maxLen) : (w.alloc (.cells (zs.map (Value.int k)).toArray e)).ownsRow w.heap.size e 1 (.slice (some ⟨w.heap.size, 0, none⟩) n n) n (zs.map (Value.int k)) :=
 ⟨by simp [hn], .inr ⟨w.heap.size, n, _, rfl, Nat.le_refl _, heap_alloc_last w _, Nat.le_refl _, hm, by simp [hn], by rw [Nat.mul_one]; exact List.take_of_length_le (by simp [hn])⟩⟩
theorem results_slot {P : Program} {fn : Func} (h : fn.results = #[.tmp 0]) {tmps : Array Value} {w : World} {v : Value} (ht : tmps.getD 0 undef = v) : (results fn tmps).run P w = .ok v w := by
 have ht' : tmps[0]?.getD undef = v := by simpa using ht
 simp [results, h, ht']
theorem rbr_any (w : World) : Calls Tryz.prog 100 #[] w fun e w' => ∃ v, e = .returned v /\ Below w.heap.size w w' /\ w'.ownsRow w.heap.size 21 1 v 42 (Ucd.br.map (Value.int .i32)) := by
 refine calls_bare 2 Tryz.func100 rfl Tryz.ntmps100 fun a hs hdf => ?_
 refine wp_seq ?_
 refine wp_region_list ?_
 refine wpList_run rfl (some 0) rfl (.slice none 0 0) w ?_ ?_
 ·simp [execOp, go_sem]
 refine wpList_nil ?_
 refine wp_seq ?_
 refine wp_region_list ?_
 refine wpList_buildFlatAt rfl 23 21 42 _ rfl .i32 Ucd.br w.heap.size rfl (some 1) rfl Tryz.underlying23 (by kernel_rfl) (by kernel_rfl) (by kernel_rfl) (by decide) (by decide) (by kernel_rfl) ?_
 refine wpList_run rfl (some 0) rfl (.slice (some ⟨w.heap.size, 0, none⟩) 42 42) (w.alloc (.cells (Ucd.br.map (Value.int .i32)).toArray 21)) ?_ ?_
 ·have z := put_same (a.put (some 0) (.slice none 0 0)) 1 (.slice (some ⟨w.heap.size, 0, none⟩) 42 42) (by rw [put_size]; omega)
  unfold execOp
  simp only [Act.eval, z]
  rfl
 refine wpList_nil ?_
 refine wp_ret ?_
 have z := put_same ((a.put (some 0) (.slice none 0 0)).put (some 1) (.slice (some ⟨w.heap.size, 0, none⟩) 42 42)) 0 (.slice (some ⟨w.heap.size, 0, none⟩) 42 42) (by rw [put_size, put_size]; omega)
 refine bodyPost_ret (v := .slice (some ⟨w.heap.size, 0, none⟩) 42 42) ?_ hdf ⟨_, rfl, (Below.refl _ _).alloc (Nat.le_refl _) _, owns_new w _ .i32 Ucd.br 42 (by kernel_rfl) (by unfold maxLen; omega)⟩
 exact results_slot Tryz.results100 z
theorem rot_any (w : World) : Calls Tryz.prog 101 #[] w fun e w' => ∃ v, e = .returned v /\ Below w.heap.size w w' /\ w'.ownsRow w.heap.size 21 1 v 20 (Ucd.ot.map (Value.int .i32)) := by
 refine calls_bare 2 Tryz.func101 rfl Tryz.ntmps101 fun a hs hdf => ?_
 refine wp_seq ?_
 refine wp_region_list ?_
 refine wpList_run rfl (some 0) rfl (.slice none 0 0) w ?_ ?_
 ·simp [execOp, go_sem]
 refine wpList_nil ?_
 refine wp_seq ?_
 refine wp_region_list ?_
 refine wpList_buildFlatAt rfl 23 21 20 _ rfl .i32 Ucd.ot w.heap.size rfl (some 1) rfl Tryz.underlying23 (by kernel_rfl) (by kernel_rfl) (by kernel_rfl) (by decide) (by decide) (by kernel_rfl) ?_
 refine wpList_run rfl (some 0) rfl (.slice (some ⟨w.heap.size, 0, none⟩) 20 20) (w.alloc (.cells (Ucd.ot.map (Value.int .i32)).toArray 21)) ?_ ?_
 ·have z := put_same (a.put (some 0) (.slice none 0 0)) 1 (.slice (some ⟨w.heap.size, 0, none⟩) 20 20) (by rw [put_size]; omega)
  unfold execOp
  simp only [Act.eval, z]
  rfl
 refine wpList_nil ?_
 refine wp_ret ?_
 have z := put_same ((a.put (some 0) (.slice none 0 0)).put (some 1) (.slice (some ⟨w.heap.size, 0, none⟩) 20 20)) 0 (.slice (some ⟨w.heap.size, 0, none⟩) 20 20) (by rw [put_size, put_size]; omega)
 refine bodyPost_ret (v := .slice (some ⟨w.heap.size, 0, none⟩) 20 20) ?_ hdf ⟨_, rfl, (Below.refl _ _).alloc (Nat.le_refl _) _, owns_new w _ .i32 Ucd.ot 20 (by kernel_rfl) (by unfold maxLen; omega)⟩
 exact results_slot Tryz.results101 z
theorem part_at (l : List Int) (r : Int) (i : Nat) (hi : i < l.length) (h : ∀ j, j < i -> ¬ l.getD j 0 = r) (he : l.getD i 0 = r) : Ucd.part l r = ((i : Int), if i % 2 = 0 then l.getD (i + 1) 0 else l.getD (i - 1) 0) := by
 unfold Ucd.part
 have : l.findIdx? (· == r) = some i := by
  rw [List.findIdx?_eq_some_iff_getElem]
  refine ⟨hi, ?_, fun j hj => ?_⟩
  ·have e : l.getD i 0 = l[i] := by simp [List.getD, List.getElem?_eq_getElem hi]
   rw [e] at he
   simp [he]
  ·have e : l.getD j 0 = l[j] := by simp [List.getD, List.getElem?_eq_getElem (show j < l.length by omega)]
   have := h j hj
   rw [e] at this
   simp [this]
 rw [this]
theorem part_none (l : List Int) (r : Int) (h : ∀ j, j < l.length -> ¬ l.getD j 0 = r) : Ucd.part l r = (-1, 0) := by
 refine Ucd.part_not l r fun hm => ?_
 obtain ⟨j, hj, e⟩ := List.getElem_of_mem hm
 exact h j hj (by simp [List.getD, List.getElem?_eq_getElem hj, e])
theorem ret_pair {a b : Int} {s : Int × Int} (h : s = (a, b)) : Ending.returned (.tuple #[.int .i64 a, .int .i32 b]) = .returned (.tuple #[.int .i64 s.1, .int .i32 s.2]) := by rw [h]
theorem dpartner_any (l : List Int) (r : Int) (ao : Option Addr) (n cap : Nat) (w : World) (h : Row .i32 w ao n cap l) (hn : n % 2 = 0) (hs : n <= 100) :
  Calls Tryz.prog 99 #[.slice ao n cap, .int .i32 r] w fun e w' => e = .returned (.tuple #[.int .i64 (Ucd.part l r).1, .int .i32 (Ucd.part l r).2]) /\ Below w.heap.size w w' := by
 have HL := hide h.len
 have hc := h.cells
 have HC := hide hc
 have hle := h.le
 clear h hc
 go_enter Tryz.func99, Tryz.ntmps99
 go_wp2_with fail
 go_loop [6] (fun s6 => ∃ i : Nat, s6 = .int .i64 i /\ i <= n /\ Hid (∀ j, j < i -> ¬ l.getD j 0 = r)) (fun s6 => ((n : Int) - intOf s6).toNat)
 case atStart => exact ⟨0, rfl, by omega, hide fun j hj => by omega⟩
 case round =>
  obtain ⟨i, rfl, hi, HI⟩ := hrel
  by_cases hi2 : i < n
  ·obtain ⟨b, off, rfl, hb, hcl⟩ := HC.out (by omega)
   have hiI : (i : Int) < (n : Int) := by omega
   have g0 := hcl i (by rw [HL.out]; exact hi2)
   by_cases he : l.getD i 0 = r
   ·have HP := hide (part_at l r i (by rw [HL.out]; exact hi2) HI.out he)
    rw [he] at g0
    rcases Nat.mod_two_eq_zero_or_one i with hp | hp
    ·have g1 := hcl (i + 1) (by rw [HL.out]; omega)
     rw [if_pos hp] at HP
     have hi1 : (i : Int) + 1 < (n : Int) := by omega
     have ht : (i : Int).tmod 2 = 0 := by rw [Int.tmod_eq_emod_of_nonneg (by omega)]; omega
     generalize l.getD (i + 1) 0 = z at *
     clear hcl
     go_wp2_with fail
     go_quiet (fail)
     go_wp2
     go_ret2
     exact ⟨ret_pair HP.out, belowN (Below.refl _ _)⟩
    ·obtain ⟨m, rfl⟩ : ∃ m, i = m + 1 := ⟨i - 1, by omega⟩
     have g1 := hcl m (by rw [HL.out]; omega)
     rw [if_neg (by omega), show m + 1 - 1 = m from by omega] at HP
     have ht : ((m : Int) + 1).tmod 2 = 1 := by rw [Int.tmod_eq_emod_of_nonneg (by omega)]; omega
     have hm1 : (m : Int) < (n : Int) := by omega
     generalize l.getD m 0 = z at *
     clear hcl
     go_wp2_with fail
     go_quiet (fail)
     go_wp2
     go_ret2
     exact ⟨ret_pair (by rw [HP.out]; simp), belowN (Below.refl _ _)⟩
   ·have HX : Hid (∀ j, j < i + 1 -> ¬ l.getD j 0 = r) := hide fun j hj => by
     rcases Nat.lt_succ_iff_lt_or_eq.1 hj with h | h
     ·exact HI.out j h
     ·rw [h]; exact he
    generalize l.getD i 0 = y at *
    clear hcl
    go_wp2
    go_round
    case rel => exact ⟨i + 1, by congr 1, by omega, HX⟩
    case measure => simp [intOf]; omega
  ·obtain rfl : i = n := by omega
   have HP := hide (part_none l r (fun j hj => HI.out j (by rw [<- HL.out]; exact hj)))
   go_wp2
   go_ret2
   exact ⟨ret_pair HP.out, Below.refl _ _⟩
theorem br_len : Ucd.br.length = 42 /\ Ucd.ot.length = 20 := by decide +kernel
theorem part_lt (l : List Int) (r : Int) : -1 <= (Ucd.part l r).1 /\ (Ucd.part l r).1 < l.length + 1 := by
 unfold Ucd.part
 cases h : l.findIdx? (· == r) with
 | none => simp; omega
 | some i =>
  obtain ⟨hi, _⟩ := List.findIdx?_eq_some_iff_getElem.1 h
  simp
  omega
theorem rbracket_any (r : Int) (w : World) : Calls Tryz.prog 141 #[.int .i32 r] w fun e w' => e = .returned (.tuple #[.int .i64 (Ucd.side r).1, .int .i32 (Ucd.side r).2]) /\ Below w.heap.size w w' := by
 have hp := part_lt Ucd.br r
 rw [br_len.1] at hp
 have HE := hide (Ucd.rside_eq r)
 go_enter Tryz.func141, Tryz.ntmps141
 go_wp2_with fail
 refine (rbr_any w).mono ?_
 rintro e w1 ⟨v, rfl, hb1, hown⟩
 obtain ⟨ao, cap, rfl, hrow⟩ := row_of_owns hown
 have HRW := hide hrow
 clear hrow hown
 go_wp2_with fail
 refine (dpartner_any Ucd.br r ao 42 cap w1 HRW.out (by omega) (by omega)).mono ?_
 rintro e w2 ⟨rfl, hb2⟩
 have HB := hide (hb1.trans (hb2.mono hb1.size))
 clear hb1 hb2
 by_cases hlt : (Ucd.part Ucd.br r).1 < 0
 ·have HS : Hid (Ucd.side r = (0, 0)) := hide (by rw [<- HE.out]; unfold Ucd.rside; rw [if_pos hlt])
  generalize (Ucd.part Ucd.br r).1 = k at *
  generalize (Ucd.part Ucd.br r).2 = z at *
  go_wp2
  go_ret2
  exact ⟨ret_pair HS.out, HB.out⟩
 ·have HS : Hid (Ucd.side r = (1 + (Ucd.part Ucd.br r).1 % 2, (Ucd.part Ucd.br r).2)) := hide (by rw [<- HE.out]; unfold Ucd.rside; rw [if_neg hlt])
  have ht : (Ucd.part Ucd.br r).1.tmod 2 = (Ucd.part Ucd.br r).1 % 2 := Int.tmod_eq_emod_of_nonneg (by omega)
  have hm : 0 <= (Ucd.part Ucd.br r).1 % 2 /\ (Ucd.part Ucd.br r).1 % 2 < 2 := by omega
  generalize (Ucd.part Ucd.br r).1 % 2 = q at *
  generalize (Ucd.part Ucd.br r).1 = k at *
  generalize (Ucd.part Ucd.br r).2 = z at *
  go_wp2
  go_ret2
  exact ⟨ret_pair HS.out, HB.out⟩
theorem rmirror_any (r : Int) (w : World) : Calls Tryz.prog 67 #[.int .i32 r] w fun e w' => e = .returned (.tuple #[.int .i32 (Ucd.mir r).1, .bool (Ucd.mir r).2]) /\ Below w.heap.size w w' := by
 have HE := hide (Ucd.rmir_eq r)
 obtain ⟨i21, hi, hz0, hz1, hz2⟩ := info_parts info21
 have HI : Hid (Tryz.prog.info? 21 = some i21) := hi
 have HZ0 := hide hz0
 have HZ1 := hide hz1
 have HZ2 := hide hz2
 clear hi hz0 hz1 hz2
 go_enter Tryz.func67, Tryz.ntmps67
 go_wp2_with fail
 refine (rbr_any w).mono ?_
 rintro e w1 ⟨v, rfl, hb1, hown⟩
 have HO := hide hown
 clear hown
 go_wp2_with fail
 refine (rot_any w1).mono ?_
 rintro e w2 ⟨v2, rfl, hb2, hown2⟩
 obtain ⟨ao2, cap2, rfl, hrow2⟩ := row_of_owns hown2
 have HR2 := hide hrow2
 have HO2 := hide (owns_below HO.out hb2)
 have HB := hide (hb1.trans (hb2.mono hb1.size))
 clear hrow2 hown2 hb1 hb2
 go_wp2_with (at_builtin; refine wpList_append_row _ (by rfl) (.tmp 7) (.tmp 8) 23 rfl w.heap.size 21 i21 (.int .i32 0) 4 Tryz.underlying23 HI.out HZ0.out HZ1.out HZ2.out rfl _ 42 _ rfl HO2.out .i32 ao2 20 cap2 Ucd.ot rfl HR2.out ?c1 (by omega) ?c2 ?_)
 case c1 => omega
 case c2 => exact HB.out.size
 intro v3 w3 ho3 hb3
 rw [<- List.map_append] at ho3
 obtain ⟨ao3, cap3, rfl, hrow3⟩ := row_of_owns ho3
 have HR3 := hide hrow3
 have HB3 := hide (HB.out.trans hb3)
 clear ho3 hb3 hrow3 HB HO HO2 HR2
 go_wp2_with fail
 refine (dpartner_any (Ucd.br ++ Ucd.ot) r ao3 62 cap3 w3 HR3.out (by omega) (by omega)).mono ?_
 rintro e w4 ⟨rfl, hb4⟩
 have HB4 := hide (HB3.out.trans (hb4.mono HB3.out.size))
 have HS : Hid (Ucd.mir r = ((Ucd.part (Ucd.br ++ Ucd.ot) r).2, decide (0 <= (Ucd.part (Ucd.br ++ Ucd.ot) r).1))) := hide HE.out.symm
 clear hb4 HE
 generalize (Ucd.part (Ucd.br ++ Ucd.ot) r).1 = k at *
 generalize (Ucd.part (Ucd.br ++ Ucd.ot) r).2 = z at *
 go_wp2
 go_ret2
 exact ⟨ret_rune_bool HS.out, HB4.out⟩
theorem rcanon_any (r : Int) (w : World) (hr : (Lit.int .i32 r).wf = true) : Calls Tryz.prog 142 #[.int .i32 r] w fun e w' => e = .returned (.int .i32 (Ucd.canon r)) /\ w = w' := by
 have hb := bounds_i32 hr
 clear hr
 by_cases h1 : r = 9001
 ·subst h1
  go_enter Tryz.func142, Tryz.ntmps142
  go_wp2
  go_ret
  exact ⟨rfl, rfl⟩
 ·by_cases h2 : r = 9002
  ·subst h2
   go_enter Tryz.func142, Tryz.ntmps142
   go_wp2
   go_ret
   exact ⟨rfl, rfl⟩
  ·have HC : Hid (Ucd.canon r = r) := hide (by unfold Ucd.canon; rw [if_neg h1, if_neg h2])
   have q1 : (r == 9001) = false := by simpa using h1
   have q2 : (r == 9002) = false := by simpa using h2
   go_enter Tryz.func142, Tryz.ntmps142
   go_wp2
   go_ret
   exact ⟨ret_int HC.out.symm, rfl⟩
end Go.Proofs.YtfcoebbblfcdoaaGreatDoor
