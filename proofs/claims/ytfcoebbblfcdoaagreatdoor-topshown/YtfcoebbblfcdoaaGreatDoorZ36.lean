import Derived.Test.YtfcoebbblfcdoaaGreatDoorZ18
import Derived.Test.YtfcoebbblfcdoaaGreatDoorZ35
import Derived.Test.YtfcoebbblfcdoaaGreatDoorZ30
import Derived.Deep.RegionWith
import Derived.Test.YtfcoebbblfcdoaaGreatDoorZ19
/- The document's brackets (colophonref10): kind, ends; plain mathematics of its partner row. -/
namespace Go.Proofs.YtfcoebbblfcdoaaGreatDoor
open Go.RowKit
set_option linter.unusedVariables false
set_option maxHeartbeats 1000000
set_option maxRecDepth 100000
namespace Br
def wl (W : List Nat) : List Int := W.reverse.map fun x : Nat => (x : Int)
theorem wl_len (W : List Nat) : (wl W).length = W.length := by simp [wl]
theorem wl_cons (k : Nat) (W : List Nat) : wl (k :: W) = wl W ++ [(k : Int)] := by simp [wl]
theorem wl_app (A B : List Nat) : wl (A ++ B) = wl B ++ wl A := by simp [wl]
theorem wl_at (A R : List Nat) (x : Nat) : (wl (A ++ x :: R)).getD R.length 0 = (x : Int) := by
 rw [wl_app, wl_cons]
 simp only [List.getD_eq_getElem?_getD, List.append_assoc]
 rw [List.getElem?_append_right (by rw [wl_len]; exact Nat.le_refl _), wl_len, Nat.sub_self]
 rfl
def prl (ps : List (Nat × Nat)) (n : Nat) : List Int := (List.range n).map fun i => (pr ps i : Int)
theorem prl_len (ps : List (Nat × Nat)) (n : Nat) : (prl ps n).length = n := by simp [prl]
theorem prl_at (ps : List (Nat × Nat)) {n i : Nat} (h : i < n) : (prl ps n).getD i 0 = (pr ps i : Int) := by simp [prl, List.getD, h]
theorem prl_nil (n : Nat) : prl [] n = List.replicate n 0 := by
 refine List.ext_getElem (by simp [prl]) fun i h1 h2 => ?_
 simp [prl, pr]
theorem pr_snoc (x k : Nat) : ∀ (ps : List (Nat × Nat)) (i : Nat), (∀ p ∈ ps, ¬ p.1 = x) -> pr (ps ++ [(x, k)]) i = if x = i then k else pr ps i
 | [], i, _ => by simp [pr]
 | p :: r, i, h => by
  rw [List.cons_append, pr, pr, pr_snoc x k r i (fun q hq => h q (List.mem_cons_of_mem _ hq))]
  have hp := h p List.mem_cons_self
  by_cases h1 : p.1 = i
  ·rw [if_pos h1, if_pos h1, if_neg (by omega)]
  ·rw [if_neg h1, if_neg h1]
theorem prl_snoc {ps : List (Nat × Nat)} {x k n : Nat} (h : ∀ p ∈ ps, ¬ p.1 = x) (hx : x < n) : prl (ps ++ [(x, k)]) n = (prl ps n).set x (k : Int) := by
 refine ext_getD (by simp [prl]) fun j => ?_
 rw [set_at, prl_len]
 by_cases hj : j < n
 ·rw [prl_at _ hj, prl_at _ hj, pr_snoc x k ps j h]
  by_cases h1 : x = j
  ·rw [if_pos h1, if_pos ⟨h1, hj⟩]
  ·rw [if_neg h1, if_neg (fun h2 => h1 h2.1)]
 ·have h1 : (prl (ps ++ [(x, k)]) n).getD j 0 = 0 := by simp only [List.getD_eq_getElem?_getD]; rw [List.getElem?_eq_none (by rw [prl_len]; omega)]; rfl
  have h2 : (prl ps n).getD j 0 = 0 := by simp only [List.getD_eq_getElem?_getD]; rw [List.getElem?_eq_none (by rw [prl_len]; omega)]; rfl
  rw [h1, h2, if_neg (fun h3 => hj h3.2)]
theorem wait_apart {kd : Nat -> Int} {mt : Nat -> Nat -> Bool} {k : Nat} {A R : List Nat} {x : Nat} {ps : List (Nat × Nat)} (hs : at' kd mt k = ⟨false, A ++ x :: R, ps⟩) : (∀ p ∈ ps, ¬ p.1 = x) /\ x < k := by
 have hi := inv (kd := kd) (mt := mt) k
 rw [hs] at hi
 refine ⟨fun p hp e => ?_, (hi.wlt x (by simp)).1⟩
 have h1 := hi.apart x (by simp) p hp
 have h2 := hi.p1 p hp
 omega
def PSk (f : Nat -> Nat) (k : Nat) : List (Nat × Nat) := (List.range k).filterMap fun i => if 0 < f i then some (i, f i) else none
theorem PSk_succ (f : Nat -> Nat) (k : Nat) : PSk f (k + 1) = PSk f k ++ (if 0 < f k then [(k, f k)] else []) := by
 unfold PSk
 rw [List.range_succ, List.filterMap_append]
 congr 1
 by_cases h : 0 < f k
 ·simp [h]
 ·simp [h]
theorem PSk_len (f : Nat -> Nat) (k : Nat) : (PSk f k).length <= k := by
 unfold PSk
 exact Nat.le_trans (List.length_filterMap_le _ _) (by simp)
end Br
theorem J2.setB {e : TypeId} {w0 w : World} {va : Value} {na : Nat} {xa : List Int} {g n cap nb : Nat} {xb : List Int} (h : J2 e w0 w va na xa (.slice (some ⟨g, 0, none⟩) nb cap) nb xb) (j : Nat) (y : Int) : J2 e w0 (w.setCell ⟨g, j, none⟩ (.int .i64 y)) va na xa (.slice (some ⟨g, 0, none⟩) nb cap) nb (xb.set j y) := by
 have hg := h.ob.lt g rfl
 refine ⟨?_, owns_set h.ob j y, h.ne, h.bel.setCell (p := ⟨g, j, none⟩) hg.1 _⟩
 refine ⟨h.oa.1, ?_⟩
 rcases h.oa.2 with hn | ⟨g', cap', cur, hv, hb, hh, rest⟩
 ·exact .inl hn
 ·subst hv
  have hne : ¬ g' = g := fun e1 => h.ne g' rfl (by rw [e1]; rfl)
  have hne' : ¬ g = g' := fun e1 => hne e1.symm
  refine .inr ⟨g', cap', cur, rfl, hb, ?_, rest⟩
  unfold World.setCell
  simp [Array.getElem?_modify, hne', hh]
theorem J2.cutA {e : TypeId} {w0 w : World} {g na cap m : Nat} {xa zs : List Int} {vb : Value} {nb : Nat} {xb : List Int} (h : J2 e w0 w (.slice (some ⟨g, 0, none⟩) na cap) na (xa ++ zs) vb nb xb) (hx : xa.length = m) (hm : m <= na) : J2 e w0 w (.slice (some ⟨g, 0, none⟩) m cap) m xa vb nb xb := by
 have ho := h.oa
 rw [List.map_append] at ho
 exact ⟨owns_cut ho (by rw [List.length_map, hx, Nat.mul_one]) hm, h.ob, fun g' h1 => h.ne g' h1, h.bel⟩
theorem rkind_any (a0 a1 : Option Addr) (n c0 c1 k : Nat) (l t : List Int) (w : World) (h0 : Row .i32 w a0 n c0 l) (h1 : Row .i64 w a1 n c1 t) (hk : k < n) :
  Calls Tryz.prog 119 #[.slice a0 n c0, .slice a1 n c1, .int .i64 (k : Int)] w fun e w' => e = .returned (.int .i64 (Br.kd l t k)) /\ KO w w' := by
 have hk' : (k : Int) < (n : Int) := by omega
 obtain ⟨b0, o0, rfl, _, hc0⟩ := h0.cells (by omega)
 obtain ⟨b1, o1, rfl, _, hc1⟩ := h1.cells (by omega)
 have g0 := hc0 k (by rw [h0.len]; exact hk)
 have g1 := hc1 k (by rw [h1.len]; exact hk)
 have HB := hide (rbracket_any (l.getD k 0) w)
 clear hc0 hc1 h0 h1
 by_cases ht : t.getD k 0 = 14
 ·rw [Br.kd_on ht]
  rw [ht] at g1
  generalize (Ucd.side (l.getD k 0)).1 = x at *
  generalize (Ucd.side (l.getD k 0)).2 = y at *
  generalize l.getD k 0 = r at *
  clear ht
  go_enter Tryz.func119, Tryz.ntmps119
  go_wp2_with fail
  refine HB.out.mono ?_
  rintro e w1 ⟨rfl, hb⟩
  go_wp2
  go_ret
  exact ⟨rfl, hb⟩
 ·rw [Br.kd_not ht]
  generalize t.getD k 0 = y at *
  have hy : (y != 14) = true := bne_iff_ne.2 ht
  go_enter Tryz.func119, Tryz.ntmps119
  go_wp2
  go_ret
  exact ⟨rfl, KO.refl _⟩
theorem rends_any (a0 : Option Addr) (n c0 x k : Nat) (l : List Int) (w : World) (h0 : Row .i32 w a0 n c0 l) (hf : ∀ x ∈ l, (Lit.int .i32 x).wf = true) (hx : x < n) (hk : k < n) :
  Calls Tryz.prog 120 #[.slice a0 n c0, .int .i64 (x : Int), .int .i64 (k : Int)] w fun e w' => e = .returned (.bool (Br.mt l x k)) /\ KO w w' := by
 have hk' : (k : Int) < (n : Int) := by omega
 have hx' : (x : Int) < (n : Int) := by omega
 obtain ⟨b0, o0, rfl, hb0, hc0⟩ := h0.cells (by omega)
 have g0 := hc0 x (by rw [h0.len]; exact hx)
 have g1 := hc0 k (by rw [h0.len]; exact hk)
 have HB := hide (rbracket_any (l.getD x 0) w)
 have hwk : (Lit.int .i32 (l.getD k 0)).wf = true := hf _ (by
  have hl : k < l.length := by rw [h0.len]; exact hk
  rw [show l.getD k 0 = l[k] from by simp [List.getD, List.getElem?_eq_getElem hl]]
  exact List.getElem_mem hl)
 have hwx : (Lit.int .i32 (Ucd.side (l.getD x 0)).2).wf = true := by
  have := Ucd.side_ok (l.getD x 0)
  exact WalkArith.wf_i32 (by omega)
 have HC1 := hide (fun W => rcanon_any (Ucd.side (l.getD x 0)).2 W hwx)
 have HC2 := hide (fun W => rcanon_any (l.getD k 0) W hwk)
 have HMT : Hid (Br.mt l x k = (Ucd.canon (Ucd.side (l.getD x 0)).2 == Ucd.canon (l.getD k 0))) := hide rfl
 clear hc0 h0 hf hwk hwx
 generalize Br.mt l x k = mm at *
 generalize Ucd.canon (l.getD k 0) = ck at *
 generalize Ucd.canon (Ucd.side (l.getD x 0)).2 = cx at *
 generalize (Ucd.side (l.getD x 0)).1 = sx at *
 generalize (Ucd.side (l.getD x 0)).2 = px at *
 generalize l.getD x 0 = rx at *
 generalize l.getD k 0 = rk at *
 go_enter Tryz.func120, Tryz.ntmps120
 go_wp2_with fail
 refine HB.out.mono ?_
 rintro e w1 ⟨rfl, hb⟩
 have g2 := (Below.cell hb (p := ⟨b0, o0 + k, none⟩) (by exact hb0)).trans g1
 have HK := hide hb
 clear g0 g1 hb HB
 go_wp2_with fail
 go_quiet (first | (go_at_call_of 142 px; first | exact Calls.quiet_of_same ((HC1.out _).mono fun _ _ ⟨he, hm⟩ => ⟨he, hm.symm⟩) | exact (HC1.out _).mono fun _ _ ⟨he, hm⟩ => ⟨he, _, hm.symm⟩) | (go_at_call_of 142 rk; first | exact Calls.quiet_of_same ((HC2.out _).mono fun _ _ ⟨he, hm⟩ => ⟨he, hm.symm⟩) | exact (HC2.out _).mono fun _ _ ⟨he, hm⟩ => ⟨he, _, hm.symm⟩))
 go_wp2
 go_ret
 exact ⟨ret_bool HMT.out.symm, KO.on HK.out (below_drewN w1 _)⟩
end Go.Proofs.YtfcoebbblfcdoaaGreatDoor

/- The document's Pairs (colophonref10): its contract. -/
namespace Go.Proofs.YtfcoebbblfcdoaaGreatDoor
open Go.RowKit
set_option linter.unusedVariables false
set_option maxHeartbeats 2000000
set_option maxRecDepth 100000
theorem run_cutI (ao : Option Addr) (n cap j : Nat) (hj : j <= cap) (w : World) :
  (Instr.slice 30 (.slice ao n cap) none (some (.int .i64 (j : Int))) none).run Tryz.prog w = .ok (.slice ao j cap) w := by
 obtain ⟨ii, hii, _⟩ := info_parts infoInt
 exact run_upto Tryz.underlying30 hii cellsInt ao n cap j hj w
structure RO (w0 : World) (g n : Nat) (F : List (Nat × Nat)) (k : Nat) (vo : Value) (w : World) : Prop where
 bel : Below w0.heap.size w0 w
 out : w.ownsRow w0.heap.size 140 2 vo (Br.PSk (Br.pr F) k).length (flat2 (Br.PSk (Br.pr F) k))
 par : w.ownsRow w0.heap.size 3 1 (.slice (some ⟨g, 0, none⟩) n n) n ((Br.prl F n).map (Value.int .i64))
theorem rpairs_ok (a0 a1 : Option Addr) (n c0 c1 : Nat) (l t : List Int) (w : World) (h0 : Row .i32 w a0 n c0 l) (h1 : Row .i64 w a1 n c1 t) (hf : ∀ x ∈ l, (Lit.int .i32 x).wf = true) (hn : n <= 80000) :
  Calls Tryz.prog 95 #[.slice a0 n c0, .slice a1 n c1] w fun e w' => ∃ ao cap, e = .returned (.tuple #[.slice ao (Br.PP l t).length cap, .int .i64 0]) /\ Pairs w' ao (Br.PP l t).length cap (Br.PP l t) /\ Below w.heap.size w w' /\ ∀ b o, ao = some ⟨b, o, none⟩ -> w.heap.size <= b := by
 obtain ⟨ii, hii, hy0, hy1, hy2⟩ := info_parts infoInt
 obtain ⟨ip, hip, hz0, hz1, hz2⟩ := info_parts pairInfo
 have HII := hide hii
 have HY0 := hide hy0
 have HY1 := hide hy1
 have HY2 := hide hy2
 have HIP := hide hip
 have HZ0 := hide hz0
 have HZ1 := hide hz1
 have HZ2 := hide hz2
 have H0 := hide h0
 have H1 := hide h1
 have HF := hide hf
 have hb2 := build_two
 have hb21 := build_pair1
 have hle := h0.le
 have hmx := h0.max
 unfold maxLen at hmx
 have HPP : Hid (Br.PP l t = Br.PSk (Br.pr (Br.F (Br.kd l t) (Br.mt l) n)) n) := hide (by rw [<- h0.len]; rfl)
 clear hii hy0 hy1 hy2 hip hz0 hz1 hz2 h0 h1 hf
 go_enter Tryz.func95, Tryz.ntmps95
 go_wp2_with (at_make; refine wpList_make_full _ rfl _ _ 30 rfl w.heap.size 3 ii (.int .i64 0) 1 Tryz.underlying30 HII.out HY0.out HY1.out _ _ _ _ n rfl rfl rfl rfl ?b2 ?b3 (Nat.le_refl _) ?_)
 case b2 => rw [HY2.out]; omega
 case b3 => unfold maxLen; omega
 intro w1 hown hgrow
 have hbel := (Below.refl w.heap.size w).grown hgrow (Nat.le_refl _) (fun _ h => by cases h)
 have HJ0 : Hid (J2 3 w w1 (.slice none 0 0) 0 (Br.wl []) (.slice (some ⟨w.heap.size, 0, none⟩) n n) n (Br.prl [] n)) := hide (by
  refine ⟨World.ownsRow_nil _ _ _ _, ?_, fun g h => by simp [Value.ownBlock] at h, hbel⟩
  have e : (madeCells #[Value.int .i64 0] n).toList = (Br.prl [] n).map (Value.int .i64) := by
   rw [Br.prl_nil]
   simp [toList_madeCells_one]
  rw [<- e]
  simpa using hown)
 clear hown hgrow hbel
 go_wp2
 generalize hG : w.heap.size = g0 at HJ0
 have HG := hide hG
 clear hG
 go_loopw [7, 8] (fun s7 s8 wr => ∃ (k : Nat) (W : List Nat) (ps : List (Nat × Nat)) (va : Value), va = s7 /\ s8 = .int .i64 k /\ k <= n /\ Hid (Br.at' (Br.kd l t) (Br.mt l) k = ⟨false, W, ps⟩) /\ Hid (J2 3 w wr va W.length (Br.wl W) (.slice (some ⟨g0, 0, none⟩) n n) n (Br.prl ps n))) (fun s7 s8 wr => n - (intOf s8).toNat)
 case atStart => exact ⟨0, [], [], _, rfl, rfl, by omega, hide rfl, HJ0⟩
 case round =>
  obtain ⟨k, W, ps, va, hva, rfl, hk, HA, HJ⟩ := hrel
  subst hva
  clear HJ0
  by_cases hlt : k < n
  ·have hlt' : (k : Int) < (n : Int) := by omega
   have HKD := hide (rkind_any a0 a1 n c0 c1 k l t wr (H0.out.below HJ.out.bel) (H1.out.below HJ.out.bel) hlt)
   have hw6 : W.length <= 63 := by have := (Br.inv (kd := Br.kd l t) (mt := Br.mt l) k).wlen; rw [HA.out] at this; exact this
   obtain ⟨av, cv, eva, hcv⟩ := owns_form HJ.out.oa
   subst eva
   have h3 : Br.kd l t k = 0 \/ Br.kd l t k = 1 \/ Br.kd l t k = 2 := by
    by_cases ht : t.getD k 0 = 14
    ·rw [Br.kd_on ht]; have := Ucd.side_ok (l.getD k 0); omega
    ·rw [Br.kd_not ht]; omega
   rcases h3 with h3 | h3 | h3
   ·have HN := hide (Br.step_skip HA.out (by rw [h3]; decide) (by rw [h3]; decide))
    rw [h3] at HKD
    clear h3 HA
    go_wp2_with fail
    refine HKD.out.mono ?_
    rintro e w2 ⟨rfl, hk2⟩
    have HJ2 := hide (HJ.out.below hk2)
    clear hk2 HKD HJ
    go_wp2
    go_roundw
    case rel => exact ⟨k + 1, W, ps, _, rfl, by go_num, by omega, HN, HJ2⟩
    case measure => simp [intOf]; omega
   ·rw [h3] at HKD
    by_cases h6 : W.length = 63
    ·have HPS := hide (Br.F_full (n := n) HA.out h3 h6 hlt)
     have h6' : (63 : Int) <= (W.length : Int) := by omega
     clear h3 HA
     go_wp2_with fail
     refine HKD.out.mono ?_
     rintro e w2 ⟨rfl, hk2⟩
     have HR0 : Hid (RO w g0 n ps 0 (.slice none 0 0) w2) := hide ⟨(HJ.out.below hk2).bel, World.ownsRow_nil _ _ _ _, (HJ.out.below hk2).ob⟩
     clear hk2 HKD HJ
     go_wp2
     have hPQ : Br.PP l t = Br.PSk (Br.pr ps) n := by rw [HPP.out, HPS.out]
     have HPQ := hide hPQ
     clear hPQ
     go_loopw [11, 12] (fun s11 s12 wr => ∃ (i : Nat) (vo : Value), vo = s11 /\ s12 = .int .i64 (i : Int) /\ i <= n /\ Hid (RO w g0 n ps i vo wr)) (fun _ s12 _ => n - (intOf s12).toNat)
     case atStart => exact ⟨0, _, rfl, rfl, Nat.zero_le _, HR0⟩
     case round =>
      rename World => wq
      obtain ⟨i, vo, hvo, rfl, hi, HR⟩ := hrel
      subst hvo
      clear HR0
      by_cases hin : i < n
      ·have hin' : (i : Int) < (n : Int) := by omega
       have ci := owns_cell HR.out.par i hin
       rw [Br.prl_at ps hin] at ci
       have HSU := hide (Br.PSk_succ (Br.pr ps) i)
       have hpl := Br.PSk_len (Br.pr ps) i
       obtain ⟨ao, co, eo, hco⟩ := owns_form HR.out.out
       by_cases hp : 0 < Br.pr ps i
       ·have HS2 : Hid (Br.PSk (Br.pr ps) (i + 1) = Br.PSk (Br.pr ps) i ++ [(i, Br.pr ps i)]) := hide (by rw [HSU.out, if_pos hp])
        generalize Br.pr ps i = q at *
        have hp' : (0 : Int) < (q : Int) := by omega
        have ca := (Below.cell ((Below.refl wq.heap.size wq)) (p := ⟨g0, i, none⟩) (by exact (HR.out.par.lt g0 rfl).2)).trans ci
        clear HSU ca
        go_wp2_with (at_builtin; refine wpList_append_two wq rfl _ _ 136 rfl w.heap.size 140 ip _ Tryz.underlying136 HIP.out HZ0.out HZ1.out HZ2.out rfl vo (Br.PSk (Br.pr ps) i).length (flat2 (Br.PSk (Br.pr ps) i)) rfl (.int .i64 (i : Int)) (.int .i64 (q : Int)) HR.out.out _ rfl rfl (by simp [Value.oneCell']) (by omega) HR.out.bel.size ?_; intro v' w' ho' hg'; have HR2 : Hid (RO w g0 n ps (i + 1) v' w') := hide ⟨Below.grown (KO.alloc HR.out.bel _) hg' (by simp; have := HR.out.bel.size; omega) (fun j hj => (HR.out.out.lt j hj).1), by rw [HS2.out, List.length_append, flat2_snoc]; exact ho', (HR.out.par.alloc _).kept hg' (owns_apart HR.out.par HR.out.out (by decide))⟩; clear ho' hg')
        go_roundw
        case rel => exact ⟨i + 1, _, rfl, by go_num, by omega, HR2⟩
        case measure => simp [intOf]; omega
       ·have HS2 : Hid (Br.PSk (Br.pr ps) (i + 1) = Br.PSk (Br.pr ps) i) := hide (by rw [HSU.out, if_neg hp, List.append_nil])
        have HR2 : Hid (RO w g0 n ps (i + 1) vo wq) := hide ⟨HR.out.bel, by rw [HS2.out]; exact HR.out.out, HR.out.par⟩
        have hp' : ¬ (0 : Int) < (Br.pr ps i : Int) := by omega
        generalize Br.pr ps i = q at *
        clear HSU HR
        go_wp2
        go_roundw
        case rel => exact ⟨i + 1, _, rfl, by go_num, by omega, HR2⟩
        case measure => simp [intOf]; omega
      ·obtain rfl : i = n := by omega
       have hne9 : ¬ ((i : Int) < (i : Int)) := by omega
       obtain ⟨ao, co, eo, hpo⟩ := pairs_of_owns HR.out.out
       subst eo
       have HPO := hide hpo
       have HBE := hide HR.out.bel
       have HFR := hide (fun b o (hb : ao = some ⟨b, o, none⟩) => show w.heap.size <= b from (HR.out.out.lt b (by rw [hb]; rfl)).1)
       clear hpo HR
       go_wp2
       go_ret2
       exact ⟨ao, co, by rw [HPQ.out]; rfl, by rw [HPQ.out]; exact HPO.out, HBE.out, HFR.out⟩
    ·have HN := hide (Br.step_open HA.out h3 h6)
     have h6' : ¬ (63 : Int) <= (W.length : Int) := by omega
     clear h3 HA
     go_wp2_with fail
     refine HKD.out.mono ?_
     rintro e w2 ⟨rfl, hk2⟩
     have HJ2 := hide ((HJ.out.below hk2).below ((Below.refl w2.heap.size w2).alloc (Nat.le_refl _) (.cells #[.int .i64 (k : Int)] 3)))
     have HRW := hide (row_one w2 w2.heap.size rfl (k : Int))
     clear hk2 HKD HJ
     generalize hWL : W.length = m at *
     go_wp2_with (at_builtin; refine wpList_j2 HJ2.out rfl (.tmp 40) (.tmp 42) 30 rfl ii (.int .i64 0) Tryz.underlying30 HII.out HY0.out HY1.out HY2.out rfl rfl ⟨w2.heap.size, 0, none⟩ (k : Int) rfl HRW.out (by omega) ?_; intro g3 cp3 w3 hJ3; have HJ3 := hide hJ3; clear hJ3)
     go_roundw
     case rel => exact ⟨k + 1, k :: W, ps, _, rfl, by go_num, by omega, HN, by rw [List.length_cons, hWL, Br.wl_cons]; exact HJ3⟩
     case measure => simp [intOf]; omega
   ·rw [h3] at HKD
    have HK2 := hide h3
    clear h3
    go_wp2_with fail
    refine HKD.out.mono ?_
    rintro e w2 ⟨rfl, hk2⟩
    have HJ2 := hide (HJ.out.below hk2)
    clear hk2 HKD HJ
    go_wp2
    go_loopw [10] (fun s10 wi => ∃ (A R : List Nat), s10 = .int .i64 (R.length : Int) /\ W = A ++ R /\ Hid (Br.fd (Br.mt l) k W = Br.fd (Br.mt l) k R) /\ Hid (KO w2 wi)) (fun s10 wi => (intOf s10).toNat)
    case atStart => exact ⟨[], W, rfl, rfl, hide rfl, hide (KO.refl _)⟩
    case round =>
     rename World => wi
     obtain ⟨A, R, rfl, hAR, HFD, HKI⟩ := hrel
     have HJI := hide (HJ2.out.below HKI.out)
     cases R with
     | nil =>
      have HN := hide (Br.step_none HA.out HK2.out (by rw [HFD.out]; rfl))
      clear HFD hAR HA HJ2 HKI
      simp only [List.length_nil]
      go_wp2
      go_roundw
      case rel => exact ⟨k + 1, W, ps, _, rfl, by go_num, by omega, HN, HJI⟩
      case measure => simp [intOf]; omega
     | cons x R =>
      have hAA := HA.out
      rw [hAR] at hAA
      obtain ⟨hxp, hxk⟩ := Br.wait_apart hAA
      have hRW : R.length + 1 <= W.length := by rw [hAR]; simp
      obtain ⟨gv, cv2, ev, hbv, hlv⟩ := owns_pos HJI.out.oa (by omega)
      simp only [Value.slice.injEq] at ev
      obtain ⟨rfl, _, rfl⟩ := ev
      have hcx := owns_cell HJI.out.oa R.length (by omega)
      rw [show (Br.wl W).getD R.length 0 = (x : Int) from by rw [hAR]; exact Br.wl_at A R x] at hcx
      have HEN := hide (rends_any a0 n c0 x k l wi (H0.out.below HJI.out.bel) HF.out (by omega) hlt)
      have hRi : ((R.length + 1 : Nat) : Int) - 1 = (R.length : Int) := by omega
      have hRp : (0 : Int) < ((R.length + 1 : Nat) : Int) := by omega
      have hRl : (R.length : Int) < (W.length : Int) := by omega
      simp only [List.length_cons]
      cases hmt : Br.mt l x k with
      | true =>
       rw [hmt] at HEN
       have HFX : Hid (Br.fd (Br.mt l) k W = x :: R) := hide (by rw [HFD.out, Br.fd, hmt]; rfl)
       have HN := hide (Br.step_some HA.out HK2.out HFX.out)
       have HPX := hide (Br.prl_snoc (k := k) (n := n) hxp (by omega))
       have HWA := hide (show Br.wl W = Br.wl R ++ Br.wl (A ++ [x]) from by rw [hAR, <- Br.wl_app]; simp)
       have hcu := run_cutI (some ⟨gv, 0, none⟩) W.length cv R.length (by omega)
       have hxn : (x : Int) < (n : Int) := by omega
       generalize hRL : R.length = m at *
       generalize hWL : W.length = mW at *
       clear HFD hAR hAA HA hxp HFX hmt
       go_wp2_with fail
       refine HEN.out.mono ?_
       rintro e w3 ⟨rfl, hk3⟩
       have hj3 := HJI.out.below hk3
       have hc3 := owns_cell hj3.oa m (by omega)
       rw [show (Br.wl W).getD m 0 = (x : Int) from by
        have h1 := owns_cell HJI.out.oa m (by omega)
        rw [hcx] at h1
        simpa using h1.symm] at hc3
       have co := owns_cell hj3.ob x (by omega)
       have hfz := hj3.ob.frozenAt x
       have HS3 := hide (hj3.setB (n := n) x (k : Int))
       rw [<- HPX.out, HWA.out] at HS3
       have HJ4 := hide (HS3.out.cutA (m := m) (by rw [Br.wl_len]; exact hRL) (by omega))
       generalize (Br.prl ps n).getD x 0 = old at co
       clear hj3 hk3 HEN HJI HS3 HJ2 HKI hcx
       go_wp2
       go_roundw
       case rel => exact ⟨k + 1, R, _, _, rfl, by go_num, by omega, HN, by rw [hRL]; exact HJ4⟩
       case measure => simp [intOf]; omega
      | false =>
       rw [hmt] at HEN
       have HFX : Hid (Br.fd (Br.mt l) k W = Br.fd (Br.mt l) k R) := hide (by rw [HFD.out, Br.fd, hmt]; rfl)
       have HAR := hide (show W = (A ++ [x]) ++ R from by rw [hAR]; simp)
       generalize hRL : R.length = m at *
       generalize hWL : W.length = mW at *
       clear HFD hAR hAA HA hxp hmt
       go_wp2_with fail
       refine HEN.out.mono ?_
       rintro e w3 ⟨rfl, hk3⟩
       have HKN := hide (KO.on HKI.out hk3)
       clear hk3 HEN HJI HKI hcx
       go_wp2
       go_roundw
       case rel => exact ⟨A ++ [x], R, by rw [hRL], HAR.out, HFX, HKN⟩
       case measure => simp [intOf]
  ·obtain rfl : k = n := by omega
   have hne : ¬ ((k : Int) < (k : Int)) := by omega
   have HPS : Hid (Br.F (Br.kd l t) (Br.mt l) k = ps) := hide (by unfold Br.F; rw [HA.out])
   have HR0 : Hid (RO w g0 k ps 0 (.slice none 0 0) wr) := hide ⟨HJ.out.bel, World.ownsRow_nil _ _ _ _, HJ.out.ob⟩
   clear HJ HA
   go_wp2
   have hPQ : Br.PP l t = Br.PSk (Br.pr ps) k := by rw [HPP.out, HPS.out]
   have HPQ := hide hPQ
   clear hPQ
   go_loopw [11, 12] (fun s11 s12 wr => ∃ (i : Nat) (vo : Value), vo = s11 /\ s12 = .int .i64 (i : Int) /\ i <= k /\ Hid (RO w g0 k ps i vo wr)) (fun _ s12 _ => k - (intOf s12).toNat)
   case atStart => exact ⟨0, _, rfl, rfl, Nat.zero_le _, HR0⟩
   case round =>
    rename World => wq
    obtain ⟨i, vo, hvo, rfl, hi, HR⟩ := hrel
    subst hvo
    clear HR0
    by_cases hin : i < k
    ·have hin' : (i : Int) < (k : Int) := by omega
     have ci := owns_cell HR.out.par i hin
     rw [Br.prl_at ps hin] at ci
     have HSU := hide (Br.PSk_succ (Br.pr ps) i)
     have hpl := Br.PSk_len (Br.pr ps) i
     obtain ⟨ao, co, eo, hco⟩ := owns_form HR.out.out
     by_cases hp : 0 < Br.pr ps i
     ·have HS2 : Hid (Br.PSk (Br.pr ps) (i + 1) = Br.PSk (Br.pr ps) i ++ [(i, Br.pr ps i)]) := hide (by rw [HSU.out, if_pos hp])
      generalize Br.pr ps i = q at *
      have hp' : (0 : Int) < (q : Int) := by omega
      have ca := (Below.cell ((Below.refl wq.heap.size wq)) (p := ⟨g0, i, none⟩) (by exact (HR.out.par.lt g0 rfl).2)).trans ci
      clear HSU ca
      go_wp2_with (at_builtin; refine wpList_append_two wq rfl _ _ 136 rfl w.heap.size 140 ip _ Tryz.underlying136 HIP.out HZ0.out HZ1.out HZ2.out rfl vo (Br.PSk (Br.pr ps) i).length (flat2 (Br.PSk (Br.pr ps) i)) rfl (.int .i64 (i : Int)) (.int .i64 (q : Int)) HR.out.out _ rfl rfl (by simp [Value.oneCell']) (by omega) HR.out.bel.size ?_; intro v' w' ho' hg'; have HR2 : Hid (RO w g0 k ps (i + 1) v' w') := hide ⟨Below.grown (KO.alloc HR.out.bel _) hg' (by simp; have := HR.out.bel.size; omega) (fun j hj => (HR.out.out.lt j hj).1), by rw [HS2.out, List.length_append, flat2_snoc]; exact ho', (HR.out.par.alloc _).kept hg' (owns_apart HR.out.par HR.out.out (by decide))⟩; clear ho' hg')
      go_roundw
      case rel => exact ⟨i + 1, _, rfl, by go_num, by omega, HR2⟩
      case measure => simp [intOf]; omega
     ·have HS2 : Hid (Br.PSk (Br.pr ps) (i + 1) = Br.PSk (Br.pr ps) i) := hide (by rw [HSU.out, if_neg hp, List.append_nil])
      have HR2 : Hid (RO w g0 k ps (i + 1) vo wq) := hide ⟨HR.out.bel, by rw [HS2.out]; exact HR.out.out, HR.out.par⟩
      have hp' : ¬ (0 : Int) < (Br.pr ps i : Int) := by omega
      generalize Br.pr ps i = q at *
      clear HSU HR
      go_wp2
      go_roundw
      case rel => exact ⟨i + 1, _, rfl, by go_num, by omega, HR2⟩
      case measure => simp [intOf]; omega
    ·obtain rfl : i = k := by omega
     have hne9 : ¬ ((i : Int) < (i : Int)) := by omega
     obtain ⟨ao, co, eo, hpo⟩ := pairs_of_owns HR.out.out
     subst eo
     have HPO := hide hpo
     have HBE := hide HR.out.bel
     have HFR := hide (fun b o (hb : ao = some ⟨b, o, none⟩) => show w.heap.size <= b from (HR.out.out.lt b (by rw [hb]; rfl)).1)
     clear hpo HR
     go_wp2
     go_ret2
     exact ⟨ao, co, by rw [HPQ.out]; rfl, by rw [HPQ.out]; exact HPO.out, HBE.out, HFR.out⟩
end Go.Proofs.YtfcoebbblfcdoaaGreatDoor

/- The document's Side, May, has, ahead, gets (colophonref10): contracts. -/
namespace Go.Proofs.YtfcoebbblfcdoaaGreatDoor
open Go.RowKit
set_option linter.unusedVariables false
set_option maxHeartbeats 1000000
set_option maxRecDepth 100000
theorem dside_any (x : Int) (w : World) : Calls Tryz.prog 97 #[.int .i64 x] w fun e w' => e = .returned (.int .i64 (Br.sd x)) /\ w = w' := by
 rcases side_cases x with rfl | ⟨h1, rfl⟩ | ⟨h1, h2, rfl⟩ | ⟨h1, h2, h3, rfl⟩ | ⟨h1, h2, h3, h4⟩
 rotate_left 4
 ·have e : Br.sd x = 0 := by simp [Br.sd, h1, h2, h3, h4]
  have q1 : (x == 1) = false := beq_false_of_ne h1
  have q2 : (x == 2) = false := beq_false_of_ne h2
  have q3 : (x == 4) = false := beq_false_of_ne h3
  have q4 : (x == 7) = false := beq_false_of_ne h4
  rw [e]; clear e
  go_enter Tryz.func97, Tryz.ntmps97
  go_wp2
  go_ret
  exact ⟨rfl, rfl⟩
 all_goals
  go_enter Tryz.func97, Tryz.ntmps97
  go_wp2
  go_ret
  exact ⟨rfl, rfl⟩
theorem dmay_any (x : Int) (w : World) : Calls Tryz.prog 94 #[.int .i64 x] w fun e w' => e = .returned (.bool (Br.may x)) /\ w = w' := by
 have HS := hide (dside_any x w)
 rcases bmay_cases x with rfl | ⟨h1, rfl⟩ | ⟨h1, h2, rfl⟩ | ⟨h1, h2, h3, rfl⟩ | ⟨h1, h2, h3, h4, rfl⟩ | ⟨h1, h2, h3, h4, h5, rfl⟩ | ⟨h1, h2, h3, h4, h5, h6, rfl⟩ | ⟨h1, h2, h3, h4, h5, h6, h7, rfl⟩ | ⟨h1, h2, h3, h4, h5, h6, h7, h8, rfl⟩ | ⟨h1, h2, h3, h4, h5, h6, h7, h8, h9, rfl⟩ | ⟨h1, h2, h3, h4, h5, h6, h7, h8, h9, h10, rfl⟩ | ⟨h1, h2, h3, h4, h5, h6, h7, h8, h9, h10, h11, rfl⟩ | ⟨h1, h2, h3, h4, h5, h6, h7, h8, h9, h10, h11, h12⟩
 rotate_left 12
 ·have e : Br.may x = false := by simp [Br.may, h1, h2, h3, h4, h5, h6, h7, h8, h9, h10, h11, h12]
  have es : Br.sd x = 0 := by simp [Br.sd, h1, h2, h3, h4]
  rw [e]; rw [es] at HS; clear e es
  have q5 : (x == 11) = false := beq_false_of_ne h5
  have q6 : (x == 12) = false := beq_false_of_ne h6
  have q7 : (x == 13) = false := beq_false_of_ne h7
  have q8 : (x == 14) = false := beq_false_of_ne h8
  have q9 : (x == 20) = false := beq_false_of_ne h9
  have q10 : (x == 21) = false := beq_false_of_ne h10
  have q11 : (x == 22) = false := beq_false_of_ne h11
  have q12 : (x == 23) = false := beq_false_of_ne h12
  go_enter Tryz.func94, Tryz.ntmps94
  go_wp2_with (go_at_call 97; refine HS.out.mono ?_; rintro e w' ⟨rfl, rfl⟩)
  go_ret
  exact ⟨rfl, rfl⟩
 all_goals
  simp only [Br.sd] at HS
  go_enter Tryz.func94, Tryz.ntmps94
  go_wp2_with (go_at_call 97; refine HS.out.mono ?_; rintro e w' ⟨rfl, rfl⟩)
  go_ret
  exact ⟨rfl, rfl⟩
theorem dhas_any (ao : Option Addr) (n cap : Nat) (zs : List Int) (s : Int) (w : World) (h : Row .i64 w ao n cap zs) (hn : n <= 17592186044416) :
  Calls Tryz.prog 121 #[.slice ao n cap, .int .i64 s] w fun e w' => e = .returned (.bool (Br.has zs s)) /\ w = w' := by
 have H := hide h
 have HL := hide h.len
 clear h
 go_enter Tryz.func121, Tryz.ntmps121
 go_wp2
 go_loopw [5] (fun s5 wr => ∃ k : Nat, s5 = .int .i64 (k : Int) /\ k <= n /\ Hid (Br.has (zs.take k) s = false) /\ w = wr) (fun s5 _ => n - (intOf s5).toNat)
 case atStart => exact ⟨0, rfl, Nat.zero_le _, hide rfl, rfl⟩
 case round =>
  obtain ⟨k, rfl, hk, HA, rfl⟩ := hrel
  by_cases hlt : k < n
  ·have hlt' : (k : Int) < (n : Int) := by omega
   obtain ⟨b, off, rfl, hb, hc⟩ := H.out.cells (by omega)
   have g0 := hc k (by rw [HL.out]; exact hlt)
   have HS := hide (dside_any (zs.getD k 0) w)
   have HN := hide (Br.has_next (s := s) (show k < zs.length by rw [HL.out]; exact hlt))
   clear hc hb
   by_cases hs : Br.sd (zs.getD k 0) = s
   ·have HE : Hid (Br.has zs s = true) := hide (Br.has_all (i := k + 1) (by rw [HN.out, decide_eq_true hs, Bool.or_true]))
    rw [hs] at HS
    clear HN HA hs
    generalize zs.getD k 0 = x at *
    go_wp2_with (go_at_call 97; refine HS.out.mono ?_; rintro e w' ⟨rfl, rfl⟩)
    go_ret
    exact ⟨ret_bool HE.out.symm, rfl⟩
   ·have HE : Hid (Br.has (zs.take (k + 1)) s = false) := hide (by rw [HN.out, HA.out, decide_eq_false hs]; rfl)
    clear HN HA
    generalize zs.getD k 0 = x at *
    generalize Br.sd x = y at *
    have hy : (y == s) = false := beq_false_of_ne hs
    go_wp2_with (go_at_call 97; refine HS.out.mono ?_; rintro e w' ⟨rfl, rfl⟩)
    go_roundw
    case rel => exact ⟨k + 1, by go_num, by omega, HE, trivial⟩
    case measure => simp [intOf]; omega
  ·obtain rfl : k = n := by omega
   have hne : ¬ ((k : Int) < (k : Int)) := by omega
   have HE : Hid (Br.has zs s = false) := hide (by have := HA.out; rwa [List.take_of_length_le (by rw [HL.out]; exact Nat.le_refl _)] at this)
   clear HA
   go_wp2
   go_ret
   exact ⟨ret_bool HE.out.symm, rfl⟩
theorem dahead_any (ao : Option Addr) (n cap i : Nat) (zs : List Int) (s : Int) (w : World) (h : Row .i64 w ao n cap zs) (hi : i <= n) (hn : n <= 17592186044416) :
  Calls Tryz.prog 122 #[.slice ao n cap, .int .i64 (i : Int), .int .i64 s] w fun e w' => e = .returned (.int .i64 (Br.ah zs s i)) /\ w = w' := by
 have H := hide h
 clear h
 go_enter Tryz.func122, Tryz.ntmps122
 go_wp2
 go_loopw [7] (fun s7 wr => ∃ k : Nat, s7 = .int .i64 ((k : Int) - 1) /\ k <= i /\ Hid (Br.ah zs s i = Br.ah zs s k) /\ w = wr) (fun s7 _ => (intOf s7 + 1).toNat)
 case atStart => exact ⟨i, rfl, Nat.le_refl _, hide rfl, rfl⟩
 case round =>
  obtain ⟨k, rfl, hk, HA, rfl⟩ := hrel
  cases k with
  | zero =>
   have HE : Hid (Br.ah zs s i = s) := hide (by rw [HA.out]; rfl)
   clear HA
   go_wp2
   go_ret
   exact ⟨ret_int HE.out.symm, rfl⟩
  | succ k =>
   obtain ⟨b, off, rfl, hb, hc⟩ := H.out.cells (by omega)
   have g0 := hc k (by rw [H.out.len]; omega)
   have hkn : (k : Int) < (n : Int) := by omega
   have hk0 : (0 : Int) <= (k : Int) := by omega
   have hki : ((k + 1 : Nat) : Int) - 1 = (k : Int) := by omega
   rw [hki]
   have HS := hide (dside_any (zs.getD k 0) w)
   by_cases hs : Br.sd (zs.getD k 0) = 0
   ·have HE : Hid (Br.ah zs s i = Br.ah zs s k) := hide (by rw [HA.out, Br.ah, if_pos hs])
    rw [hs] at HS
    clear HA hs hc hb
    generalize zs.getD k 0 = x at *
    go_wp2_with (go_at_call 97; refine HS.out.mono ?_; rintro e w' ⟨rfl, rfl⟩)
    go_roundw
    case rel => exact ⟨k, rfl, by omega, HE, trivial⟩
    case measure => simp [intOf]
   ·have HE : Hid (Br.ah zs s i = Br.sd (zs.getD k 0)) := hide (by rw [HA.out, Br.ah, if_neg hs])
    clear HA hc hb
    generalize zs.getD k 0 = x at *
    generalize Br.sd x = y at *
    have hy : (y != 0) = true := bne_iff_ne.2 hs
    go_wp2_with (go_at_call 97; refine HS.out.mono ?_; rintro e w' ⟨rfl, rfl⟩)
    go_ret
    exact ⟨ret_int HE.out.symm, rfl⟩
theorem dgets_any (ao : Option Addr) (n cap : Nat) (T : List Int) (p q : Nat) (e s : Int) (w : World) (h : Row .i64 w ao n cap T) (hn : n <= 17592186044416) (h1 : p < q) (h2 : q < n) (he : e = 1 \/ e = 2) :
  Calls Tryz.prog 96 #[.slice ao n cap, .agg #[.int .i64 (p : Int), .int .i64 (q : Int)], .int .i64 e, .int .i64 s] w fun r w' => r = .returned (.int .i64 (Br.dr T (p, q) e s)) /\ KO w w' := by
 obtain ⟨ii, hii, _, _, _⟩ := info_parts infoInt
 have hcap := h.le
 have hmx := h.max
 unfold maxLen at hmx
 have hmid := run_mid Tryz.underlying30 hii cellsInt ao n cap (p + 1) q (by omega) (by omega)
 rw [show ((p + 1 : Nat) : Int) = (p : Int) + 1 from by omega] at hmid
 have hk1 : KO w (w.alloc (.cells #[.int .i64 (p : Int), .int .i64 (q : Int)] 140)) := KO.alloc (KO.refl _) _
 have hrI : Row .i64 (w.alloc (.cells #[.int .i64 (p : Int), .int .i64 (q : Int)] 140)) (tl ao cap (p + 1)) (q - (p + 1)) (cap - (p + 1)) (Br.ins T (p, q)) := ((h.below hk1).drop (j := p + 1) (by omega)).take (by omega)
 have HD : Hid (Br.dr T (p, q) e s = if Br.has (Br.ins T (p, q)) e = true then e else if Br.has (Br.ins T (p, q)) (3 - e) = true then (if Br.ah T s p = 3 - e then 3 - e else e) else 0) := hide rfl
 obtain ⟨g0, g1⟩ := cells2 w (.int .i64 (p : Int)) (.int .i64 (q : Int)) 140
 have HH1 := hide (dhas_any _ _ _ _ e _ hrI (by omega))
 have HH2 := hide (dhas_any _ _ _ _ (3 - e) _ hrI (by omega))
 have HAH := hide (dahead_any ao n cap p T s _ (h.below hk1) (by omega) hn)
 have HKO := hide hk1
 have he3 : (0 : Int) <= 3 - e /\ 3 - e <= 3 := by omega
 clear h hk1 hrI hii
 generalize hW : w.alloc (.cells #[.int .i64 (p : Int), .int .i64 (q : Int)] 140) = W at *
 generalize Br.has (Br.ins T (p, q)) e = b1 at *
 generalize Br.has (Br.ins T (p, q)) (3 - e) = b2 at *
 generalize hAHV : Br.ah T s p = av at *
 cases b1 with
 | true =>
  have HX : Hid (Br.dr T (p, q) e s = e) := hide (by rw [HD.out, if_pos rfl])
  clear HD
  go_enter Tryz.func96, Tryz.ntmps96
  go_wp2_with fail
  refine HH1.out.mono ?_
  rintro e' w' ⟨rfl, rfl⟩
  go_wp2
  go_ret
  exact ⟨ret_int HX.out.symm, HKO.out⟩
 | false =>
  cases b2 with
  | false =>
   have HX : Hid (Br.dr T (p, q) e s = 0) := hide (by rw [HD.out, if_neg (by decide), if_neg (by decide)])
   clear HD
   go_enter Tryz.func96, Tryz.ntmps96
   go_wp2_with fail
   refine HH1.out.mono ?_
   rintro e' w' ⟨rfl, rfl⟩
   go_wp2_with fail
   refine HH2.out.mono ?_
   rintro e' w' ⟨rfl, rfl⟩
   go_wp2
   go_ret
   exact ⟨ret_int HX.out.symm, HKO.out⟩
  | true =>
   by_cases hah : av = 3 - e
   ·have HX : Hid (Br.dr T (p, q) e s = 3 - e) := hide (by rw [HD.out, if_neg (by decide), if_pos rfl, if_pos hah])
    subst hah
    clear HD
    go_enter Tryz.func96, Tryz.ntmps96
    go_wp2_with fail
    refine HH1.out.mono ?_
    rintro e' w' ⟨rfl, rfl⟩
    go_wp2_with fail
    refine HH2.out.mono ?_
    rintro e' w' ⟨rfl, rfl⟩
    go_wp2_with fail
    refine HAH.out.mono ?_
    rintro e' w' ⟨rfl, rfl⟩
    go_wp2
    go_ret
    exact ⟨ret_int HX.out.symm, HKO.out⟩
   ·have HX : Hid (Br.dr T (p, q) e s = e) := hide (by rw [HD.out, if_neg (by decide), if_pos rfl, if_neg hah])
    have hab : (av == 3 - e) = false := beq_false_of_ne hah
    clear HD
    go_enter Tryz.func96, Tryz.ntmps96
    go_wp2_with fail
    refine HH1.out.mono ?_
    rintro e' w' ⟨rfl, rfl⟩
    go_wp2_with fail
    refine HH2.out.mono ?_
    rintro e' w' ⟨rfl, rfl⟩
    go_wp2_with fail
    refine HAH.out.mono ?_
    rintro e' w' ⟨rfl, rfl⟩
    go_wp2
    go_ret
    exact ⟨ret_int HX.out.symm, HKO.out⟩
end Go.Proofs.YtfcoebbblfcdoaaGreatDoor
