/- The document's brackets (colophonref10): kind, ends; plain mathematics of its partner row. -/
import Derived.Test.YtkkmifpdhcdkpaaDoorBk
import Derived.Test.YtkkmifpdhcdkpaaDoorRefm
import Derived.Test.YtkkmifpdhcdkpaaDoorTwo
import Derived.Test.YtkkmifpdhcdkpaaDoorTwoMore
import Derived.Deep.RegionWith
namespace Go.Proofs.YtkkmifpdhcdkpaaDoor
open Go.RowKit
set_option linter.unusedVariables false
set_option maxHeartbeats 1000000
set_option maxRecDepth 100000
namespace Br
def wl (W : List Nat) : List Int := W.reverse.map fun x : Nat => (x : Int)
theorem wl_len (W : List Nat) : (wl W).length = W.length := by simp [wl]
theorem wl_cons (k : Nat) (W : List Nat) : wl (k :: W) = wl W ++ [(k : Int)] := by simp [wl]
theorem wl_app (A B : List Nat) : wl (A ++ B) = wl B ++ wl A := by simp [wl]
theorem wl_at (A R : List Nat) (x : Nat) : (wl (A ++ x :: R)).getD R.length 0 = (x : Int) := by
  rw [wl_app, wl_cons]
  simp only [List.getD_eq_getElem?_getD, List.append_assoc]
  rw [List.getElem?_append_right (by rw [wl_len]; exact Nat.le_refl _), wl_len, Nat.sub_self]
  rfl
def prl (ps : List (Nat × Nat)) (n : Nat) : List Int := (List.range n).map fun i => (pr ps i : Int)
theorem prl_len (ps : List (Nat × Nat)) (n : Nat) : (prl ps n).length = n := by simp [prl]
theorem prl_at (ps : List (Nat × Nat)) {n i : Nat} (h : i < n) : (prl ps n).getD i 0 = (pr ps i : Int) := by simp [prl, List.getD, h]
theorem prl_nil (n : Nat) : prl [] n = List.replicate n 0 := by
  refine List.ext_getElem (by simp [prl]) fun i h1 h2 => ?_
  simp [prl, pr]
theorem pr_snoc (x k : Nat) : ∀ (ps : List (Nat × Nat)) (i : Nat), (∀ p ∈ ps, ¬ p.1 = x) → pr (ps ++ [(x, k)]) i = if x = i then k else pr ps i
  | [], i, _ => by simp [pr]
  | p :: r, i, h => by
    rw [List.cons_append, pr, pr, pr_snoc x k r i (fun q hq => h q (List.mem_cons_of_mem _ hq))]
    have hp := h p List.mem_cons_self
    by_cases h1 : p.1 = i
    · rw [if_pos h1, if_pos h1, if_neg (by omega)]
    · rw [if_neg h1, if_neg h1]
theorem prl_snoc {ps : List (Nat × Nat)} {x k n : Nat} (h : ∀ p ∈ ps, ¬ p.1 = x) (hx : x < n) : prl (ps ++ [(x, k)]) n = (prl ps n).set x (k : Int) := by
  refine ext_getD (by simp [prl]) fun j => ?_
  rw [set_at, prl_len]
  by_cases hj : j < n
  · rw [prl_at _ hj, prl_at _ hj, pr_snoc x k ps j h]
    by_cases h1 : x = j
    · rw [if_pos h1, if_pos ⟨h1, hj⟩]
    · rw [if_neg h1, if_neg (fun h2 => h1 h2.1)]
  · have h1 : (prl (ps ++ [(x, k)]) n).getD j 0 = 0 := by simp only [List.getD_eq_getElem?_getD]; rw [List.getElem?_eq_none (by rw [prl_len]; omega)]; rfl
    have h2 : (prl ps n).getD j 0 = 0 := by simp only [List.getD_eq_getElem?_getD]; rw [List.getElem?_eq_none (by rw [prl_len]; omega)]; rfl
    rw [h1, h2, if_neg (fun h3 => hj h3.2)]
/-- One that waits is in no pair. -/
theorem wait_apart {kd : Nat → Int} {mt : Nat → Nat → Bool} {k : Nat} {A R : List Nat} {x : Nat} {ps : List (Nat × Nat)} (hs : at' kd mt k = ⟨false, A ++ x :: R, ps⟩) : (∀ p ∈ ps, ¬ p.1 = x) ∧ x < k := by
  have hi := inv (kd := kd) (mt := mt) k
  rw [hs] at hi
  refine ⟨fun p hp e => ?_, (hi.wlt x (by simp)).1⟩
  have h1 := hi.apart x (by simp) p hp
  have h2 := hi.p1 p hp
  omega
/-- The pairs that open ahead of k. -/
def PSk (f : Nat → Nat) (k : Nat) : List (Nat × Nat) := (List.range k).filterMap fun i => if 0 < f i then some (i, f i) else none
theorem PSk_succ (f : Nat → Nat) (k : Nat) : PSk f (k + 1) = PSk f k ++ (if 0 < f k then [(k, f k)] else []) := by
  unfold PSk
  rw [List.range_succ, List.filterMap_append]
  congr 1
  by_cases h : 0 < f k
  · simp [h]
  · simp [h]
theorem PSk_len (f : Nat → Nat) (k : Nat) : (PSk f k).length ≤ k := by
  unfold PSk
  exact Nat.le_trans (List.length_filterMap_le _ _) (by simp)
end Br
theorem J2.setB {e : TypeId} {w0 w : World} {va : Value} {na : Nat} {xa : List Int} {g n cap nb : Nat} {xb : List Int} (h : J2 e w0 w va na xa (.slice (some ⟨g, 0, none⟩) nb cap) nb xb) (j : Nat) (y : Int) : J2 e w0 (w.setCell ⟨g, j, none⟩ (.int .i64 y)) va na xa (.slice (some ⟨g, 0, none⟩) nb cap) nb (xb.set j y) := by
  have hg := h.ob.lt g rfl
  refine ⟨?_, owns_set h.ob j y, h.ne, h.bel.setCell (p := ⟨g, j, none⟩) hg.1 _⟩
  refine ⟨h.oa.1, ?_⟩
  rcases h.oa.2 with hn | ⟨g', cap', cur, hv, hb, hh, rest⟩
  · exact .inl hn
  · subst hv
    have hne : ¬ g' = g := fun e1 => h.ne g' rfl (by rw [e1]; rfl)
    have hne' : ¬ g = g' := fun e1 => hne e1.symm
    refine .inr ⟨g', cap', cur, rfl, hb, ?_, rest⟩
    unfold World.setCell
    simp [Array.getElem?_modify, hne', hh]
theorem J2.cutA {e : TypeId} {w0 w : World} {g na cap m : Nat} {xa zs : List Int} {vb : Value} {nb : Nat} {xb : List Int} (h : J2 e w0 w (.slice (some ⟨g, 0, none⟩) na cap) na (xa ++ zs) vb nb xb) (hx : xa.length = m) (hm : m ≤ na) : J2 e w0 w (.slice (some ⟨g, 0, none⟩) m cap) m xa vb nb xb := by
  have ho := h.oa
  rw [List.map_append] at ho
  exact ⟨owns_cut ho (by rw [List.length_map, hx, Nat.mul_one]) hm, h.ob, fun g' h1 => h.ne g' h1, h.bel⟩
theorem rkind_any (a0 a1 : Option Addr) (n c0 c1 k : Nat) (l t : List Int) (w : World) (h0 : Row .i32 w a0 n c0 l) (h1 : Row .i64 w a1 n c1 t) (hk : k < n) :
    Calls Tryd.prog 24 #[.slice a0 n c0, .slice a1 n c1, .int .i64 (k : Int)] w fun e w' => e = .returned (.int .i64 (Br.kd l t k)) ∧ KO w w' := by
  have hk' : (k : Int) < (n : Int) := by omega
  obtain ⟨b0, o0, rfl, _, hc0⟩ := h0.cells (by omega)
  obtain ⟨b1, o1, rfl, _, hc1⟩ := h1.cells (by omega)
  have g0 := hc0 k (by rw [h0.len]; exact hk)
  have g1 := hc1 k (by rw [h1.len]; exact hk)
  have HB := hide (rbracket_any (l.getD k 0) w)
  clear hc0 hc1 h0 h1
  by_cases ht : t.getD k 0 = 14
  · rw [Br.kd_on ht]
    rw [ht] at g1
    generalize (Ucd.side (l.getD k 0)).1 = x at *
    generalize (Ucd.side (l.getD k 0)).2 = y at *
    generalize l.getD k 0 = r at *
    clear ht
    go_enter Tryd.func24, Tryd.ntmps24
    go_wp2_with fail
    refine HB.out.mono ?_
    rintro e w1 ⟨rfl, hb⟩
    go_wp2
    go_ret
    exact ⟨rfl, hb⟩
  · rw [Br.kd_not ht]
    generalize t.getD k 0 = y at *
    have hy : (y != 14) = true := bne_iff_ne.2 ht
    go_enter Tryd.func24, Tryd.ntmps24
    go_wp2
    go_ret
    exact ⟨rfl, KO.refl _⟩
theorem rends_any (a0 : Option Addr) (n c0 x k : Nat) (l : List Int) (w : World) (h0 : Row .i32 w a0 n c0 l) (hf : ∀ x ∈ l, (Lit.int .i32 x).wf = true) (hx : x < n) (hk : k < n) :
    Calls Tryd.prog 25 #[.slice a0 n c0, .int .i64 (x : Int), .int .i64 (k : Int)] w fun e w' => e = .returned (.bool (Br.mt l x k)) ∧ KO w w' := by
  have hk' : (k : Int) < (n : Int) := by omega
  have hx' : (x : Int) < (n : Int) := by omega
  obtain ⟨b0, o0, rfl, hb0, hc0⟩ := h0.cells (by omega)
  have g0 := hc0 x (by rw [h0.len]; exact hx)
  have g1 := hc0 k (by rw [h0.len]; exact hk)
  have HB := hide (rbracket_any (l.getD x 0) w)
  have hwk : (Lit.int .i32 (l.getD k 0)).wf = true := hf _ (by
    have hl : k < l.length := by rw [h0.len]; exact hk
    rw [show l.getD k 0 = l[k] from by simp [List.getD, List.getElem?_eq_getElem hl]]
    exact List.getElem_mem hl)
  have hwx : (Lit.int .i32 (Ucd.side (l.getD x 0)).2).wf = true := by
    have := Ucd.side_ok (l.getD x 0)
    exact WalkArith.wf_i32 (by omega)
  have HC1 := hide (fun W => rcanon_any (Ucd.side (l.getD x 0)).2 W hwx)
  have HC2 := hide (fun W => rcanon_any (l.getD k 0) W hwk)
  have HMT : Hid (Br.mt l x k = (Ucd.canon (Ucd.side (l.getD x 0)).2 == Ucd.canon (l.getD k 0))) := hide rfl
  clear hc0 h0 hf hwk hwx
  generalize Br.mt l x k = mm at *
  generalize Ucd.canon (l.getD k 0) = ck at *
  generalize Ucd.canon (Ucd.side (l.getD x 0)).2 = cx at *
  generalize (Ucd.side (l.getD x 0)).1 = sx at *
  generalize (Ucd.side (l.getD x 0)).2 = px at *
  generalize l.getD x 0 = rx at *
  generalize l.getD k 0 = rk at *
  go_enter Tryd.func25, Tryd.ntmps25
  go_wp2_with fail
  refine HB.out.mono ?_
  rintro e w1 ⟨rfl, hb⟩
  have g2 := (Below.cell hb (p := ⟨b0, o0 + k, none⟩) (by exact hb0)).trans g1
  have HK := hide hb
  clear g0 g1 hb HB
  go_wp2_with fail
  go_quiet (first | (go_at_call_of 38 px; first | exact Calls.quiet_of_same ((HC1.out _).mono fun _ _ ⟨he, hm⟩ => ⟨he, hm.symm⟩) | exact (HC1.out _).mono fun _ _ ⟨he, hm⟩ => ⟨he, _, hm.symm⟩) | (go_at_call_of 38 rk; first | exact Calls.quiet_of_same ((HC2.out _).mono fun _ _ ⟨he, hm⟩ => ⟨he, hm.symm⟩) | exact (HC2.out _).mono fun _ _ ⟨he, hm⟩ => ⟨he, _, hm.symm⟩))
  go_wp2
  go_ret
  exact ⟨ret_bool HMT.out.symm, KO.on HK.out (below_drewN w1 _)⟩
end Go.Proofs.YtkkmifpdhcdkpaaDoor
