import Derived.Test.YtfadjgaledddjaaGreatDoorZg
import Derived.Test.YtfadjgaledddjaaGreatDoorZa
import Derived.WalkKit
import Derived.WalkSpells
import Derived.WalkLawsBesides
import Derived.Outline
import Derived.Great.BuildSlice
import Derived.Deep.QuietTactic
import Derived.BigQuiet
import Derived.Test.YtfadjgaledddjaaGreatDoorZj
import Derived.Deep.RegionWith
import Derived.Laws.AppendOwn
/- The document's own brackets and mirror images (colophonref03): contracts; the walk of UcdMarks. -/
namespace Go.Proofs.YtfadjgaledddjaaGreatDoor
open Go.RowKit Go.Maps
set_option linter.unusedVariables false
set_option maxHeartbeats 1000000
set_option maxRecDepth 100000
theorem belowN {B n : Nat} {w w' : World} (h : Below B w w') : Below B w (w'.drewN n) := ⟨h.os, h.tape, h.output, h.size, h.block⟩
theorem info21 : (Tryz.prog.info? 21).map (fun i => (i.zero, i.size, i.bytes)) = some (some (.int .i32 0), 1, 4) := by kernel_rfl
theorem owns_new (w : World) (e : TypeId) (k : IntKind) (zs : List Int) (n : Nat) (hn : zs.length = n) (hm : n ≤ maxLen) : (w.alloc (.cells (zs.map (Value.int k)).toArray e)).ownsRow w.heap.size e 1 (.slice (some ⟨w.heap.size, 0, none⟩) n n) n (zs.map (Value.int k)) :=
  ⟨by simp [hn], .inr ⟨w.heap.size, n, _, rfl, Nat.le_refl _, heap_alloc_last w _, Nat.le_refl _, hm, by simp [hn], by rw [Nat.mul_one]; exact List.take_of_length_le (by simp [hn])⟩⟩
theorem results_slot {P : Program} {fn : Func} (h : fn.results = #[.tmp 0]) {tmps : Array Value} {w : World} {v : Value} (ht : tmps.getD 0 undef = v) : (results fn tmps).run P w = .ok v w := by
  have ht' : tmps[0]?.getD undef = v := by simpa using ht
  simp [results, h, ht']
theorem rbr_any (w : World) : Calls Tryz.prog 132 #[] w fun e w' => ∃ v, e = .returned v ∧ Below w.heap.size w w' ∧ w'.ownsRow w.heap.size 21 1 v 42 (Ucd.br.map (Value.int .i32)) := by
  refine calls_bare 2 Tryz.func132 rfl Tryz.ntmps132 fun a hs hdf => ?_
  refine wp_seq ?_
  refine wp_region_list ?_
  refine wpList_run rfl (some 0) rfl (.slice none 0 0) w ?_ ?_
  · simp [execOp, go_sem]
  refine wpList_nil ?_
  refine wp_seq ?_
  refine wp_region_list ?_
  refine wpList_buildFlatAt rfl 22 21 42 _ rfl .i32 Ucd.br w.heap.size rfl (some 1) rfl Tryz.underlying22 (by kernel_rfl) (by kernel_rfl) (by kernel_rfl) (by decide) (by decide) (by kernel_rfl) ?_
  refine wpList_run rfl (some 0) rfl (.slice (some ⟨w.heap.size, 0, none⟩) 42 42) (w.alloc (.cells (Ucd.br.map (Value.int .i32)).toArray 21)) ?_ ?_
  · have z := put_same (a.put (some 0) (.slice none 0 0)) 1 (.slice (some ⟨w.heap.size, 0, none⟩) 42 42) (by rw [put_size]; omega)
    unfold execOp
    simp only [Act.eval, z]
    rfl
  refine wpList_nil ?_
  refine wp_ret ?_
  have z := put_same ((a.put (some 0) (.slice none 0 0)).put (some 1) (.slice (some ⟨w.heap.size, 0, none⟩) 42 42)) 0 (.slice (some ⟨w.heap.size, 0, none⟩) 42 42) (by rw [put_size, put_size]; omega)
  refine bodyPost_ret (v := .slice (some ⟨w.heap.size, 0, none⟩) 42 42) ?_ hdf ⟨_, rfl, (Below.refl _ _).alloc (Nat.le_refl _) _, owns_new w _ .i32 Ucd.br 42 (by kernel_rfl) (by unfold maxLen; omega)⟩
  exact results_slot Tryz.results132 z
theorem part_at (l : List Int) (r : Int) (i : Nat) (hi : i < l.length) (h : ∀ j, j < i → ¬ l.getD j 0 = r) (he : l.getD i 0 = r) : Ucd.part l r = ((i : Int), if i % 2 = 0 then l.getD (i + 1) 0 else l.getD (i - 1) 0) := by
  unfold Ucd.part
  have : l.findIdx? (· == r) = some i := by
    rw [List.findIdx?_eq_some_iff_getElem]
    refine ⟨hi, ?_, fun j hj => ?_⟩
    · have e : l.getD i 0 = l[i] := by simp [List.getD, List.getElem?_eq_getElem hi]
      rw [e] at he
      simp [he]
    · have e : l.getD j 0 = l[j] := by simp [List.getD, List.getElem?_eq_getElem (show j < l.length by omega)]
      have := h j hj
      rw [e] at this
      simp [this]
  rw [this]
theorem part_none (l : List Int) (r : Int) (h : ∀ j, j < l.length → ¬ l.getD j 0 = r) : Ucd.part l r = (-1, 0) := by
  refine Ucd.part_not l r fun hm => ?_
  obtain ⟨j, hj, e⟩ := List.getElem_of_mem hm
  exact h j hj (by simp [List.getD, List.getElem?_eq_getElem hj, e])
theorem ret_pair {a b : Int} {s : Int × Int} (h : s = (a, b)) : Ending.returned (.tuple #[.int .i64 a, .int .i32 b]) = .returned (.tuple #[.int .i64 s.1, .int .i32 s.2]) := by rw [h]
theorem dpartner_any (l : List Int) (r : Int) (ao : Option Addr) (n cap : Nat) (w : World) (h : Row .i32 w ao n cap l) (hn : n % 2 = 0) (hs : n ≤ 100) :
    Calls Tryz.prog 131 #[.slice ao n cap, .int .i32 r] w fun e w' => e = .returned (.tuple #[.int .i64 (Ucd.part l r).1, .int .i32 (Ucd.part l r).2]) ∧ Below w.heap.size w w' := by
  have HL := hide h.len
  have hc := h.cells
  have HC := hide hc
  have hle := h.le
  clear h hc
  go_enter Tryz.func131, Tryz.ntmps131
  go_wp2_with fail
  go_loop [6] (fun s6 => ∃ i : Nat, s6 = .int .i64 i ∧ i ≤ n ∧ Hid (∀ j, j < i → ¬ l.getD j 0 = r)) (fun s6 => ((n : Int) - intOf s6).toNat)
  case atStart => exact ⟨0, rfl, by omega, hide fun j hj => by omega⟩
  case round =>
    obtain ⟨i, rfl, hi, HI⟩ := hrel
    by_cases hi2 : i < n
    · obtain ⟨b, off, rfl, hb, hcl⟩ := HC.out (by omega)
      have hiI : (i : Int) < (n : Int) := by omega
      have g0 := hcl i (by rw [HL.out]; exact hi2)
      by_cases he : l.getD i 0 = r
      · have HP := hide (part_at l r i (by rw [HL.out]; exact hi2) HI.out he)
        rw [he] at g0
        rcases Nat.mod_two_eq_zero_or_one i with hp | hp
        · have g1 := hcl (i + 1) (by rw [HL.out]; omega)
          rw [if_pos hp] at HP
          have hi1 : (i : Int) + 1 < (n : Int) := by omega
          have ht : (i : Int).tmod 2 = 0 := by rw [Int.tmod_eq_emod_of_nonneg (by omega)]; omega
          generalize l.getD (i + 1) 0 = z at *
          clear hcl
          go_wp2_with fail
          go_quiet (fail)
          go_wp2
          go_ret2
          exact ⟨ret_pair HP.out, belowN (Below.refl _ _)⟩
        · obtain ⟨m, rfl⟩ : ∃ m, i = m + 1 := ⟨i - 1, by omega⟩
          have g1 := hcl m (by rw [HL.out]; omega)
          rw [if_neg (by omega), show m + 1 - 1 = m from by omega] at HP
          have ht : ((m : Int) + 1).tmod 2 = 1 := by rw [Int.tmod_eq_emod_of_nonneg (by omega)]; omega
          have hm1 : (m : Int) < (n : Int) := by omega
          generalize l.getD m 0 = z at *
          clear hcl
          go_wp2_with fail
          go_quiet (fail)
          go_wp2
          go_ret2
          exact ⟨ret_pair (by rw [HP.out]; simp), belowN (Below.refl _ _)⟩
      · have HX : Hid (∀ j, j < i + 1 → ¬ l.getD j 0 = r) := hide fun j hj => by
          rcases Nat.lt_succ_iff_lt_or_eq.1 hj with h | h
          · exact HI.out j h
          · rw [h]; exact he
        generalize l.getD i 0 = y at *
        clear hcl
        go_wp2
        go_round
        case rel => exact ⟨i + 1, by congr 1, by omega, HX⟩
        case measure => simp [intOf]; omega
    · obtain rfl : i = n := by omega
      have HP := hide (part_none l r (fun j hj => HI.out j (by rw [← HL.out]; exact hj)))
      go_wp2
      go_ret2
      exact ⟨ret_pair HP.out, Below.refl _ _⟩
theorem br_len : Ucd.br.length = 42 ∧ Ucd.ot.length = 20 := by decide +kernel
theorem part_lt (l : List Int) (r : Int) : -1 ≤ (Ucd.part l r).1 ∧ (Ucd.part l r).1 < l.length + 1 := by
  unfold Ucd.part
  cases h : l.findIdx? (· == r) with
  | none => simp; omega
  | some i =>
    obtain ⟨hi, _⟩ := List.findIdx?_eq_some_iff_getElem.1 h
    simp
    omega
theorem rbracket_any (r : Int) (w : World) : Calls Tryz.prog 111 #[.int .i32 r] w fun e w' => e = .returned (.tuple #[.int .i64 (Ucd.side r).1, .int .i32 (Ucd.side r).2]) ∧ Below w.heap.size w w' := by
  have hp := part_lt Ucd.br r
  rw [br_len.1] at hp
  have HE := hide (Ucd.rside_eq r)
  go_enter Tryz.func111, Tryz.ntmps111
  go_wp2_with fail
  refine (rbr_any w).mono ?_
  rintro e w1 ⟨v, rfl, hb1, hown⟩
  obtain ⟨ao, cap, rfl, hrow⟩ := row_of_owns hown
  have HRW := hide hrow
  clear hrow hown
  go_wp2_with fail
  refine (dpartner_any Ucd.br r ao 42 cap w1 HRW.out (by omega) (by omega)).mono ?_
  rintro e w2 ⟨rfl, hb2⟩
  have HB := hide (hb1.trans (hb2.mono hb1.size))
  clear hb1 hb2
  by_cases hlt : (Ucd.part Ucd.br r).1 < 0
  · have HS : Hid (Ucd.side r = (0, 0)) := hide (by rw [← HE.out]; unfold Ucd.rside; rw [if_pos hlt])
    generalize (Ucd.part Ucd.br r).1 = k at *
    generalize (Ucd.part Ucd.br r).2 = z at *
    go_wp2
    go_ret2
    exact ⟨ret_pair HS.out, HB.out⟩
  · have HS : Hid (Ucd.side r = (1 + (Ucd.part Ucd.br r).1 % 2, (Ucd.part Ucd.br r).2)) := hide (by rw [← HE.out]; unfold Ucd.rside; rw [if_neg hlt])
    have ht : (Ucd.part Ucd.br r).1.tmod 2 = (Ucd.part Ucd.br r).1 % 2 := Int.tmod_eq_emod_of_nonneg (by omega)
    have hm : 0 ≤ (Ucd.part Ucd.br r).1 % 2 ∧ (Ucd.part Ucd.br r).1 % 2 < 2 := by omega
    generalize (Ucd.part Ucd.br r).1 % 2 = q at *
    generalize (Ucd.part Ucd.br r).1 = k at *
    generalize (Ucd.part Ucd.br r).2 = z at *
    go_wp2
    go_ret2
    exact ⟨ret_pair HS.out, HB.out⟩
theorem rcanon_any (r : Int) (w : World) (hr : (Lit.int .i32 r).wf = true) : Calls Tryz.prog 112 #[.int .i32 r] w fun e w' => e = .returned (.int .i32 (Ucd.canon r)) ∧ w = w' := by
  have hb := bounds_i32 hr
  clear hr
  by_cases h1 : r = 9001
  · subst h1
    go_enter Tryz.func112, Tryz.ntmps112
    go_wp2
    go_ret
    exact ⟨rfl, rfl⟩
  · by_cases h2 : r = 9002
    · subst h2
      go_enter Tryz.func112, Tryz.ntmps112
      go_wp2
      go_ret
      exact ⟨rfl, rfl⟩
    · have HC : Hid (Ucd.canon r = r) := hide (by unfold Ucd.canon; rw [if_neg h1, if_neg h2])
      have q1 : (r == 9001) = false := by simpa using h1
      have q2 : (r == 9002) = false := by simpa using h2
      go_enter Tryz.func112, Tryz.ntmps112
      go_wp2
      go_ret
      exact ⟨ret_int HC.out.symm, rfl⟩
end Go.Proofs.YtfadjgaledddjaaGreatDoor

/- The document's brackets (colophonref10): kind, ends; plain mathematics of its partner row. -/
namespace Go.Proofs.YtfadjgaledddjaaGreatDoor
open Go.RowKit
set_option linter.unusedVariables false
set_option maxHeartbeats 1000000
set_option maxRecDepth 100000
namespace Br
def wl (W : List Nat) : List Int := W.reverse.map fun x : Nat => (x : Int)
theorem wl_len (W : List Nat) : (wl W).length = W.length := by simp [wl]
theorem wl_cons (k : Nat) (W : List Nat) : wl (k :: W) = wl W ++ [(k : Int)] := by simp [wl]
theorem wl_app (A B : List Nat) : wl (A ++ B) = wl B ++ wl A := by simp [wl]
theorem wl_at (A R : List Nat) (x : Nat) : (wl (A ++ x :: R)).getD R.length 0 = (x : Int) := by
  rw [wl_app, wl_cons]
  simp only [List.getD_eq_getElem?_getD, List.append_assoc]
  rw [List.getElem?_append_right (by rw [wl_len]; exact Nat.le_refl _), wl_len, Nat.sub_self]
  rfl
def prl (ps : List (Nat × Nat)) (n : Nat) : List Int := (List.range n).map fun i => (pr ps i : Int)
theorem prl_len (ps : List (Nat × Nat)) (n : Nat) : (prl ps n).length = n := by simp [prl]
theorem prl_at (ps : List (Nat × Nat)) {n i : Nat} (h : i < n) : (prl ps n).getD i 0 = (pr ps i : Int) := by simp [prl, List.getD, h]
theorem prl_nil (n : Nat) : prl [] n = List.replicate n 0 := by
  refine List.ext_getElem (by simp [prl]) fun i h1 h2 => ?_
  simp [prl, pr]
theorem pr_snoc (x k : Nat) : ∀ (ps : List (Nat × Nat)) (i : Nat), (∀ p ∈ ps, ¬ p.1 = x) → pr (ps ++ [(x, k)]) i = if x = i then k else pr ps i
  | [], i, _ => by simp [pr]
  | p :: r, i, h => by
    rw [List.cons_append, pr, pr, pr_snoc x k r i (fun q hq => h q (List.mem_cons_of_mem _ hq))]
    have hp := h p List.mem_cons_self
    by_cases h1 : p.1 = i
    · rw [if_pos h1, if_pos h1, if_neg (by omega)]
    · rw [if_neg h1, if_neg h1]
theorem prl_snoc {ps : List (Nat × Nat)} {x k n : Nat} (h : ∀ p ∈ ps, ¬ p.1 = x) (hx : x < n) : prl (ps ++ [(x, k)]) n = (prl ps n).set x (k : Int) := by
  refine ext_getD (by simp [prl]) fun j => ?_
  rw [set_at, prl_len]
  by_cases hj : j < n
  · rw [prl_at _ hj, prl_at _ hj, pr_snoc x k ps j h]
    by_cases h1 : x = j
    · rw [if_pos h1, if_pos ⟨h1, hj⟩]
    · rw [if_neg h1, if_neg (fun h2 => h1 h2.1)]
  · have h1 : (prl (ps ++ [(x, k)]) n).getD j 0 = 0 := by simp only [List.getD_eq_getElem?_getD]; rw [List.getElem?_eq_none (by rw [prl_len]; omega)]; rfl
    have h2 : (prl ps n).getD j 0 = 0 := by simp only [List.getD_eq_getElem?_getD]; rw [List.getElem?_eq_none (by rw [prl_len]; omega)]; rfl
    rw [h1, h2, if_neg (fun h3 => hj h3.2)]
/-- One that waits is in no pair. -/
theorem wait_apart {kd : Nat → Int} {mt : Nat → Nat → Bool} {k : Nat} {A R : List Nat} {x : Nat} {ps : List (Nat × Nat)} (hs : at' kd mt k = ⟨false, A ++ x :: R, ps⟩) : (∀ p ∈ ps, ¬ p.1 = x) ∧ x < k := by
  have hi := inv (kd := kd) (mt := mt) k
  rw [hs] at hi
  refine ⟨fun p hp e => ?_, (hi.wlt x (by simp)).1⟩
  have h1 := hi.apart x (by simp) p hp
  have h2 := hi.p1 p hp
  omega
/-- The pairs that open ahead of k. -/
def PSk (f : Nat → Nat) (k : Nat) : List (Nat × Nat) := (List.range k).filterMap fun i => if 0 < f i then some (i, f i) else none
theorem PSk_succ (f : Nat → Nat) (k : Nat) : PSk f (k + 1) = PSk f k ++ (if 0 < f k then [(k, f k)] else []) := by
  unfold PSk
  rw [List.range_succ, List.filterMap_append]
  congr 1
  by_cases h : 0 < f k
  · simp [h]
  · simp [h]
theorem PSk_len (f : Nat → Nat) (k : Nat) : (PSk f k).length ≤ k := by
  unfold PSk
  exact Nat.le_trans (List.length_filterMap_le _ _) (by simp)
end Br
theorem J2.setB {e : TypeId} {w0 w : World} {va : Value} {na : Nat} {xa : List Int} {g n cap nb : Nat} {xb : List Int} (h : J2 e w0 w va na xa (.slice (some ⟨g, 0, none⟩) nb cap) nb xb) (j : Nat) (y : Int) : J2 e w0 (w.setCell ⟨g, j, none⟩ (.int .i64 y)) va na xa (.slice (some ⟨g, 0, none⟩) nb cap) nb (xb.set j y) := by
  have hg := h.ob.lt g rfl
  refine ⟨?_, owns_set h.ob j y, h.ne, h.bel.setCell (p := ⟨g, j, none⟩) hg.1 _⟩
  refine ⟨h.oa.1, ?_⟩
  rcases h.oa.2 with hn | ⟨g', cap', cur, hv, hb, hh, rest⟩
  · exact .inl hn
  · subst hv
    have hne : ¬ g' = g := fun e1 => h.ne g' rfl (by rw [e1]; rfl)
    have hne' : ¬ g = g' := fun e1 => hne e1.symm
    refine .inr ⟨g', cap', cur, rfl, hb, ?_, rest⟩
    unfold World.setCell
    simp [Array.getElem?_modify, hne', hh]
theorem J2.cutA {e : TypeId} {w0 w : World} {g na cap m : Nat} {xa zs : List Int} {vb : Value} {nb : Nat} {xb : List Int} (h : J2 e w0 w (.slice (some ⟨g, 0, none⟩) na cap) na (xa ++ zs) vb nb xb) (hx : xa.length = m) (hm : m ≤ na) : J2 e w0 w (.slice (some ⟨g, 0, none⟩) m cap) m xa vb nb xb := by
  have ho := h.oa
  rw [List.map_append] at ho
  exact ⟨owns_cut ho (by rw [List.length_map, hx, Nat.mul_one]) hm, h.ob, fun g' h1 => h.ne g' h1, h.bel⟩
theorem rkind_any (a0 a1 : Option Addr) (n c0 c1 k : Nat) (l t : List Int) (w : World) (h0 : Row .i32 w a0 n c0 l) (h1 : Row .i64 w a1 n c1 t) (hk : k < n) :
    Calls Tryz.prog 97 #[.slice a0 n c0, .slice a1 n c1, .int .i64 (k : Int)] w fun e w' => e = .returned (.int .i64 (Br.kd l t k)) ∧ KO w w' := by
  have hk' : (k : Int) < (n : Int) := by omega
  obtain ⟨b0, o0, rfl, _, hc0⟩ := h0.cells (by omega)
  obtain ⟨b1, o1, rfl, _, hc1⟩ := h1.cells (by omega)
  have g0 := hc0 k (by rw [h0.len]; exact hk)
  have g1 := hc1 k (by rw [h1.len]; exact hk)
  have HB := hide (rbracket_any (l.getD k 0) w)
  clear hc0 hc1 h0 h1
  by_cases ht : t.getD k 0 = 14
  · rw [Br.kd_on ht]
    rw [ht] at g1
    generalize (Ucd.side (l.getD k 0)).1 = x at *
    generalize (Ucd.side (l.getD k 0)).2 = y at *
    generalize l.getD k 0 = r at *
    clear ht
    go_enter Tryz.func97, Tryz.ntmps97
    go_wp2_with fail
    refine HB.out.mono ?_
    rintro e w1 ⟨rfl, hb⟩
    go_wp2
    go_ret
    exact ⟨rfl, hb⟩
  · rw [Br.kd_not ht]
    generalize t.getD k 0 = y at *
    have hy : (y != 14) = true := bne_iff_ne.2 ht
    go_enter Tryz.func97, Tryz.ntmps97
    go_wp2
    go_ret
    exact ⟨rfl, KO.refl _⟩
theorem rends_any (a0 : Option Addr) (n c0 x k : Nat) (l : List Int) (w : World) (h0 : Row .i32 w a0 n c0 l) (hf : ∀ x ∈ l, (Lit.int .i32 x).wf = true) (hx : x < n) (hk : k < n) :
    Calls Tryz.prog 98 #[.slice a0 n c0, .int .i64 (x : Int), .int .i64 (k : Int)] w fun e w' => e = .returned (.bool (Br.mt l x k)) ∧ KO w w' := by
  have hk' : (k : Int) < (n : Int) := by omega
  have hx' : (x : Int) < (n : Int) := by omega
  obtain ⟨b0, o0, rfl, hb0, hc0⟩ := h0.cells (by omega)
  have g0 := hc0 x (by rw [h0.len]; exact hx)
  have g1 := hc0 k (by rw [h0.len]; exact hk)
  have HB := hide (rbracket_any (l.getD x 0) w)
  have hwk : (Lit.int .i32 (l.getD k 0)).wf = true := hf _ (by
    have hl : k < l.length := by rw [h0.len]; exact hk
    rw [show l.getD k 0 = l[k] from by simp [List.getD, List.getElem?_eq_getElem hl]]
    exact List.getElem_mem hl)
  have hwx : (Lit.int .i32 (Ucd.side (l.getD x 0)).2).wf = true := by
    have := Ucd.side_ok (l.getD x 0)
    exact WalkArith.wf_i32 (by omega)
  have HC1 := hide (fun W => rcanon_any (Ucd.side (l.getD x 0)).2 W hwx)
  have HC2 := hide (fun W => rcanon_any (l.getD k 0) W hwk)
  have HMT : Hid (Br.mt l x k = (Ucd.canon (Ucd.side (l.getD x 0)).2 == Ucd.canon (l.getD k 0))) := hide rfl
  clear hc0 h0 hf hwk hwx
  generalize Br.mt l x k = mm at *
  generalize Ucd.canon (l.getD k 0) = ck at *
  generalize Ucd.canon (Ucd.side (l.getD x 0)).2 = cx at *
  generalize (Ucd.side (l.getD x 0)).1 = sx at *
  generalize (Ucd.side (l.getD x 0)).2 = px at *
  generalize l.getD x 0 = rx at *
  generalize l.getD k 0 = rk at *
  go_enter Tryz.func98, Tryz.ntmps98
  go_wp2_with fail
  refine HB.out.mono ?_
  rintro e w1 ⟨rfl, hb⟩
  have g2 := (Below.cell hb (p := ⟨b0, o0 + k, none⟩) (by exact hb0)).trans g1
  have HK := hide hb
  clear g0 g1 hb HB
  go_wp2_with fail
  go_quiet (first | (go_at_call_of 112 px; first | exact Calls.quiet_of_same ((HC1.out _).mono fun _ _ ⟨he, hm⟩ => ⟨he, hm.symm⟩) | exact (HC1.out _).mono fun _ _ ⟨he, hm⟩ => ⟨he, _, hm.symm⟩) | (go_at_call_of 112 rk; first | exact Calls.quiet_of_same ((HC2.out _).mono fun _ _ ⟨he, hm⟩ => ⟨he, hm.symm⟩) | exact (HC2.out _).mono fun _ _ ⟨he, hm⟩ => ⟨he, _, hm.symm⟩))
  go_wp2
  go_ret
  exact ⟨ret_bool HMT.out.symm, KO.on HK.out (below_drewN w1 _)⟩
end Go.Proofs.YtfadjgaledddjaaGreatDoor

/- The document's Pairs (colophonref10): its contract. -/
namespace Go.Proofs.YtfadjgaledddjaaGreatDoor
open Go.RowKit
set_option linter.unusedVariables false
set_option maxHeartbeats 2000000
set_option maxRecDepth 100000
theorem run_cutI (ao : Option Addr) (n cap j : Nat) (hj : j ≤ cap) (w : World) :
    (Instr.slice 24 (.slice ao n cap) none (some (.int .i64 (j : Int))) none).run Tryz.prog w = .ok (.slice ao j cap) w := by
  obtain ⟨ii, hii, _⟩ := info_parts infoInt
  exact run_upto Tryz.underlying24 hii cellsInt ao n cap j hj w
/-- What the last loop keeps. -/
structure RO (w0 : World) (g n : Nat) (F : List (Nat × Nat)) (k : Nat) (vo : Value) (w : World) : Prop where
  bel : Below w0.heap.size w0 w
  out : w.ownsRow w0.heap.size 127 2 vo (Br.PSk (Br.pr F) k).length (flat2 (Br.PSk (Br.pr F) k))
  par : w.ownsRow w0.heap.size 3 1 (.slice (some ⟨g, 0, none⟩) n n) n ((Br.prl F n).map (Value.int .i64))
theorem rpairs_bad (a0 a1 : Option Addr) (n m c0 c1 : Nat) (w : World) (hne : ¬ n = m) (hn : n ≤ 9223372036854775807) (hm : m ≤ 9223372036854775807) :
    Calls Tryz.prog 77 #[.slice a0 n c0, .slice a1 m c1] w fun e w' => e = .returned (.tuple #[.slice none 0 0, .int .i64 2]) ∧ w = w' := by
  have h1 : ((n : Int) == (m : Int)) = false := beq_false_of_ne (by omega)
  have h2 : ¬ (n : Int) = (m : Int) := by omega
  go_enter Tryz.func77, Tryz.ntmps77
  go_wp2
  go_ret2
  exact ⟨rfl, rfl⟩
theorem rpairs_ok (a0 a1 : Option Addr) (n c0 c1 : Nat) (l t : List Int) (w : World) (h0 : Row .i32 w a0 n c0 l) (h1 : Row .i64 w a1 n c1 t) (hf : ∀ x ∈ l, (Lit.int .i32 x).wf = true) (hn : n ≤ 80000) :
    Calls Tryz.prog 77 #[.slice a0 n c0, .slice a1 n c1] w fun e w' => ∃ ao cap, e = .returned (.tuple #[.slice ao (Br.PP l t).length cap, .int .i64 0]) ∧ Pairs w' ao (Br.PP l t).length cap (Br.PP l t) ∧ Below w.heap.size w w' ∧ ∀ b o, ao = some ⟨b, o, none⟩ → w.heap.size ≤ b := by
  obtain ⟨ii, hii, hy0, hy1, hy2⟩ := info_parts infoInt
  obtain ⟨ip, hip, hz0, hz1, hz2⟩ := info_parts pairInfo
  have HII := hide hii
  have HY0 := hide hy0
  have HY1 := hide hy1
  have HY2 := hide hy2
  have HIP := hide hip
  have HZ0 := hide hz0
  have HZ1 := hide hz1
  have HZ2 := hide hz2
  have H0 := hide h0
  have H1 := hide h1
  have HF := hide hf
  have hb2 := build_two
  have hb21 := build_pair1
  have hle := h0.le
  have hmx := h0.max
  unfold maxLen at hmx
  have HPP : Hid (Br.PP l t = Br.PSk (Br.pr (Br.F (Br.kd l t) (Br.mt l) n)) n) := hide (by rw [← h0.len]; rfl)
  clear hii hy0 hy1 hy2 hip hz0 hz1 hz2 h0 h1 hf
  go_enter Tryz.func77, Tryz.ntmps77
  go_wp2_with (at_make; refine wpList_make_full _ rfl _ _ 24 rfl w.heap.size 3 ii (.int .i64 0) 1 Tryz.underlying24 HII.out HY0.out HY1.out _ _ _ _ n rfl rfl rfl rfl ?b2 ?b3 (Nat.le_refl _) ?_)
  case b2 => rw [HY2.out]; omega
  case b3 => unfold maxLen; omega
  intro w1 hown hgrow
  have hbel := (Below.refl w.heap.size w).grown hgrow (Nat.le_refl _) (fun _ h => by cases h)
  have HJ0 : Hid (J2 3 w w1 (.slice none 0 0) 0 (Br.wl []) (.slice (some ⟨w.heap.size, 0, none⟩) n n) n (Br.prl [] n)) := hide (by
    refine ⟨World.ownsRow_nil _ _ _ _, ?_, fun g h => by simp [Value.ownBlock] at h, hbel⟩
    have e : (madeCells #[Value.int .i64 0] n).toList = (Br.prl [] n).map (Value.int .i64) := by
      rw [Br.prl_nil]
      simp [toList_madeCells_one]
    rw [← e]
    simpa using hown)
  clear hown hgrow hbel
  go_wp2
  generalize hG : w.heap.size = g0 at HJ0
  have HG := hide hG
  clear hG
  go_loopw [7, 8] (fun s7 s8 wr => ∃ (k : Nat) (W : List Nat) (ps : List (Nat × Nat)) (va : Value), va = s7 ∧ s8 = .int .i64 k ∧ k ≤ n ∧ Hid (Br.at' (Br.kd l t) (Br.mt l) k = ⟨false, W, ps⟩) ∧ Hid (J2 3 w wr va W.length (Br.wl W) (.slice (some ⟨g0, 0, none⟩) n n) n (Br.prl ps n))) (fun s7 s8 wr => n - (intOf s8).toNat)
  case atStart => exact ⟨0, [], [], _, rfl, rfl, by omega, hide rfl, HJ0⟩
  case round =>
    obtain ⟨k, W, ps, va, hva, rfl, hk, HA, HJ⟩ := hrel
    subst hva
    clear HJ0
    by_cases hlt : k < n
    · have hlt' : (k : Int) < (n : Int) := by omega
      have HKD := hide (rkind_any a0 a1 n c0 c1 k l t wr (H0.out.below HJ.out.bel) (H1.out.below HJ.out.bel) hlt)
      have hw6 : W.length ≤ 63 := by have := (Br.inv (kd := Br.kd l t) (mt := Br.mt l) k).wlen; rw [HA.out] at this; exact this
      obtain ⟨av, cv, eva, hcv⟩ := owns_form HJ.out.oa
      subst eva
      have h3 : Br.kd l t k = 0 ∨ Br.kd l t k = 1 ∨ Br.kd l t k = 2 := by
        by_cases ht : t.getD k 0 = 14
        · rw [Br.kd_on ht]; have := Ucd.side_ok (l.getD k 0); omega
        · rw [Br.kd_not ht]; omega
      rcases h3 with h3 | h3 | h3
      · have HN := hide (Br.step_skip HA.out (by rw [h3]; decide) (by rw [h3]; decide))
        rw [h3] at HKD
        clear h3 HA
        go_wp2_with fail
        refine HKD.out.mono ?_
        rintro e w2 ⟨rfl, hk2⟩
        have HJ2 := hide (HJ.out.below hk2)
        clear hk2 HKD HJ
        go_wp2
        go_roundw
        case rel => exact ⟨k + 1, W, ps, _, rfl, by go_num, by omega, HN, HJ2⟩
        case measure => simp [intOf]; omega
      · rw [h3] at HKD
        by_cases h6 : W.length = 63
        · have HPS := hide (Br.F_full (n := n) HA.out h3 h6 hlt)
          have h6' : (63 : Int) ≤ (W.length : Int) := by omega
          clear h3 HA
          go_wp2_with fail
          refine HKD.out.mono ?_
          rintro e w2 ⟨rfl, hk2⟩
          have HR0 : Hid (RO w g0 n ps 0 (.slice none 0 0) w2) := hide ⟨(HJ.out.below hk2).bel, World.ownsRow_nil _ _ _ _, (HJ.out.below hk2).ob⟩
          clear hk2 HKD HJ
          go_wp2
          have hPQ : Br.PP l t = Br.PSk (Br.pr ps) n := by rw [HPP.out, HPS.out]
          have HPQ := hide hPQ
          clear hPQ
          go_loopw [11, 12] (fun s11 s12 wr => ∃ (i : Nat) (vo : Value), vo = s11 ∧ s12 = .int .i64 (i : Int) ∧ i ≤ n ∧ Hid (RO w g0 n ps i vo wr)) (fun _ s12 _ => n - (intOf s12).toNat)
          case atStart => exact ⟨0, _, rfl, rfl, Nat.zero_le _, HR0⟩
          case round =>
            rename World => wq
            obtain ⟨i, vo, hvo, rfl, hi, HR⟩ := hrel
            subst hvo
            clear HR0
            by_cases hin : i < n
            · have hin' : (i : Int) < (n : Int) := by omega
              have ci := owns_cell HR.out.par i hin
              rw [Br.prl_at ps hin] at ci
              have HSU := hide (Br.PSk_succ (Br.pr ps) i)
              have hpl := Br.PSk_len (Br.pr ps) i
              obtain ⟨ao, co, eo, hco⟩ := owns_form HR.out.out
              by_cases hp : 0 < Br.pr ps i
              · have HS2 : Hid (Br.PSk (Br.pr ps) (i + 1) = Br.PSk (Br.pr ps) i ++ [(i, Br.pr ps i)]) := hide (by rw [HSU.out, if_pos hp])
                generalize Br.pr ps i = q at *
                have hp' : (0 : Int) < (q : Int) := by omega
                have ca := (Below.cell ((Below.refl wq.heap.size wq)) (p := ⟨g0, i, none⟩) (by exact (HR.out.par.lt g0 rfl).2)).trans ci
                clear HSU ca
                go_wp2_with (at_builtin; refine wpList_append_two wq rfl _ _ 123 rfl w.heap.size 127 ip _ Tryz.underlying123 HIP.out HZ0.out HZ1.out HZ2.out rfl vo (Br.PSk (Br.pr ps) i).length (flat2 (Br.PSk (Br.pr ps) i)) rfl (.int .i64 (i : Int)) (.int .i64 (q : Int)) HR.out.out _ rfl rfl (by simp [Value.oneCell']) (by omega) HR.out.bel.size ?_; intro v' w' ho' hg'; have HR2 : Hid (RO w g0 n ps (i + 1) v' w') := hide ⟨Below.grown (KO.alloc HR.out.bel _) hg' (by simp; have := HR.out.bel.size; omega) (fun j hj => (HR.out.out.lt j hj).1), by rw [HS2.out, List.length_append, flat2_snoc]; exact ho', (HR.out.par.alloc _).kept hg' (owns_apart HR.out.par HR.out.out (by decide))⟩; clear ho' hg')
                go_roundw
                case rel => exact ⟨i + 1, _, rfl, by go_num, by omega, HR2⟩
                case measure => simp [intOf]; omega
              · have HS2 : Hid (Br.PSk (Br.pr ps) (i + 1) = Br.PSk (Br.pr ps) i) := hide (by rw [HSU.out, if_neg hp, List.append_nil])
                have HR2 : Hid (RO w g0 n ps (i + 1) vo wq) := hide ⟨HR.out.bel, by rw [HS2.out]; exact HR.out.out, HR.out.par⟩
                have hp' : ¬ (0 : Int) < (Br.pr ps i : Int) := by omega
                generalize Br.pr ps i = q at *
                clear HSU HR
                go_wp2
                go_roundw
                case rel => exact ⟨i + 1, _, rfl, by go_num, by omega, HR2⟩
                case measure => simp [intOf]; omega
            · obtain rfl : i = n := by omega
              have hne9 : ¬ ((i : Int) < (i : Int)) := by omega
              obtain ⟨ao, co, eo, hpo⟩ := pairs_of_owns HR.out.out
              subst eo
              have HPO := hide hpo
              have HBE := hide HR.out.bel
              have HFR := hide (fun b o (hb : ao = some ⟨b, o, none⟩) => show w.heap.size ≤ b from (HR.out.out.lt b (by rw [hb]; rfl)).1)
              clear hpo HR
              go_wp2
              go_ret2
              exact ⟨ao, co, by rw [HPQ.out]; rfl, by rw [HPQ.out]; exact HPO.out, HBE.out, HFR.out⟩
        · have HN := hide (Br.step_open HA.out h3 h6)
          have h6' : ¬ (63 : Int) ≤ (W.length : Int) := by omega
          clear h3 HA
          go_wp2_with fail
          refine HKD.out.mono ?_
          rintro e w2 ⟨rfl, hk2⟩
          have HJ2 := hide ((HJ.out.below hk2).below ((Below.refl w2.heap.size w2).alloc (Nat.le_refl _) (.cells #[.int .i64 (k : Int)] 3)))
          have HRW := hide (row_one w2 w2.heap.size rfl (k : Int))
          clear hk2 HKD HJ
          generalize hWL : W.length = m at *
          go_wp2_with (at_builtin; refine wpList_j2 HJ2.out rfl (.tmp 40) (.tmp 42) 24 rfl ii (.int .i64 0) Tryz.underlying24 HII.out HY0.out HY1.out HY2.out rfl rfl ⟨w2.heap.size, 0, none⟩ (k : Int) rfl HRW.out (by omega) ?_; intro g3 cp3 w3 hJ3; have HJ3 := hide hJ3; clear hJ3)
          go_roundw
          case rel => exact ⟨k + 1, k :: W, ps, _, rfl, by go_num, by omega, HN, by rw [List.length_cons, hWL, Br.wl_cons]; exact HJ3⟩
          case measure => simp [intOf]; omega
      · rw [h3] at HKD
        have HK2 := hide h3
        clear h3
        go_wp2_with fail
        refine HKD.out.mono ?_
        rintro e w2 ⟨rfl, hk2⟩
        have HJ2 := hide (HJ.out.below hk2)
        clear hk2 HKD HJ
        go_wp2
        go_loopw [10] (fun s10 wi => ∃ (A R : List Nat), s10 = .int .i64 (R.length : Int) ∧ W = A ++ R ∧ Hid (Br.fd (Br.mt l) k W = Br.fd (Br.mt l) k R) ∧ Hid (KO w2 wi)) (fun s10 wi => (intOf s10).toNat)
        case atStart => exact ⟨[], W, rfl, rfl, hide rfl, hide (KO.refl _)⟩
        case round =>
          rename World => wi
          obtain ⟨A, R, rfl, hAR, HFD, HKI⟩ := hrel
          have HJI := hide (HJ2.out.below HKI.out)
          cases R with
          | nil =>
            have HN := hide (Br.step_none HA.out HK2.out (by rw [HFD.out]; rfl))
            clear HFD hAR HA HJ2 HKI
            simp only [List.length_nil]
            go_wp2
            go_roundw
            case rel => exact ⟨k + 1, W, ps, _, rfl, by go_num, by omega, HN, HJI⟩
            case measure => simp [intOf]; omega
          | cons x R =>
            have hAA := HA.out
            rw [hAR] at hAA
            obtain ⟨hxp, hxk⟩ := Br.wait_apart hAA
            have hRW : R.length + 1 ≤ W.length := by rw [hAR]; simp
            obtain ⟨gv, cv2, ev, hbv, hlv⟩ := owns_pos HJI.out.oa (by omega)
            simp only [Value.slice.injEq] at ev
            obtain ⟨rfl, _, rfl⟩ := ev
            have hcx := owns_cell HJI.out.oa R.length (by omega)
            rw [show (Br.wl W).getD R.length 0 = (x : Int) from by rw [hAR]; exact Br.wl_at A R x] at hcx
            have HEN := hide (rends_any a0 n c0 x k l wi (H0.out.below HJI.out.bel) HF.out (by omega) hlt)
            have hRi : ((R.length + 1 : Nat) : Int) - 1 = (R.length : Int) := by omega
            have hRp : (0 : Int) < ((R.length + 1 : Nat) : Int) := by omega
            have hRl : (R.length : Int) < (W.length : Int) := by omega
            simp only [List.length_cons]
            cases hmt : Br.mt l x k with
            | true =>
              rw [hmt] at HEN
              have HFX : Hid (Br.fd (Br.mt l) k W = x :: R) := hide (by rw [HFD.out, Br.fd, hmt]; rfl)
              have HN := hide (Br.step_some HA.out HK2.out HFX.out)
              have HPX := hide (Br.prl_snoc (k := k) (n := n) hxp (by omega))
              have HWA := hide (show Br.wl W = Br.wl R ++ Br.wl (A ++ [x]) from by rw [hAR, ← Br.wl_app]; simp)
              have hcu := run_cutI (some ⟨gv, 0, none⟩) W.length cv R.length (by omega)
              have hxn : (x : Int) < (n : Int) := by omega
              generalize hRL : R.length = m at *
              generalize hWL : W.length = mW at *
              clear HFD hAR hAA HA hxp HFX hmt
              go_wp2_with fail
              refine HEN.out.mono ?_
              rintro e w3 ⟨rfl, hk3⟩
              have hj3 := HJI.out.below hk3
              have hc3 := owns_cell hj3.oa m (by omega)
              rw [show (Br.wl W).getD m 0 = (x : Int) from by
                have h1 := owns_cell HJI.out.oa m (by omega)
                rw [hcx] at h1
                simpa using h1.symm] at hc3
              have co := owns_cell hj3.ob x (by omega)
              have hfz := hj3.ob.frozenAt x
              have HS3 := hide (hj3.setB (n := n) x (k : Int))
              rw [← HPX.out, HWA.out] at HS3
              have HJ4 := hide (HS3.out.cutA (m := m) (by rw [Br.wl_len]; exact hRL) (by omega))
              generalize (Br.prl ps n).getD x 0 = old at co
              clear hj3 hk3 HEN HJI HS3 HJ2 HKI hcx
              go_wp2
              go_roundw
              case rel => exact ⟨k + 1, R, _, _, rfl, by go_num, by omega, HN, by rw [hRL]; exact HJ4⟩
              case measure => simp [intOf]; omega
            | false =>
              rw [hmt] at HEN
              have HFX : Hid (Br.fd (Br.mt l) k W = Br.fd (Br.mt l) k R) := hide (by rw [HFD.out, Br.fd, hmt]; rfl)
              have HAR := hide (show W = (A ++ [x]) ++ R from by rw [hAR]; simp)
              generalize hRL : R.length = m at *
              generalize hWL : W.length = mW at *
              clear HFD hAR hAA HA hxp hmt
              go_wp2_with fail
              refine HEN.out.mono ?_
              rintro e w3 ⟨rfl, hk3⟩
              have HKN := hide (KO.on HKI.out hk3)
              clear hk3 HEN HJI HKI hcx
              go_wp2
              go_roundw
              case rel => exact ⟨A ++ [x], R, by rw [hRL], HAR.out, HFX, HKN⟩
              case measure => simp [intOf]
    · obtain rfl : k = n := by omega
      have hne : ¬ ((k : Int) < (k : Int)) := by omega
      have HPS : Hid (Br.F (Br.kd l t) (Br.mt l) k = ps) := hide (by unfold Br.F; rw [HA.out])
      have HR0 : Hid (RO w g0 k ps 0 (.slice none 0 0) wr) := hide ⟨HJ.out.bel, World.ownsRow_nil _ _ _ _, HJ.out.ob⟩
      clear HJ HA
      go_wp2
      have hPQ : Br.PP l t = Br.PSk (Br.pr ps) k := by rw [HPP.out, HPS.out]
      have HPQ := hide hPQ
      clear hPQ
      go_loopw [11, 12] (fun s11 s12 wr => ∃ (i : Nat) (vo : Value), vo = s11 ∧ s12 = .int .i64 (i : Int) ∧ i ≤ k ∧ Hid (RO w g0 k ps i vo wr)) (fun _ s12 _ => k - (intOf s12).toNat)
      case atStart => exact ⟨0, _, rfl, rfl, Nat.zero_le _, HR0⟩
      case round =>
        rename World => wq
        obtain ⟨i, vo, hvo, rfl, hi, HR⟩ := hrel
        subst hvo
        clear HR0
        by_cases hin : i < k
        · have hin' : (i : Int) < (k : Int) := by omega
          have ci := owns_cell HR.out.par i hin
          rw [Br.prl_at ps hin] at ci
          have HSU := hide (Br.PSk_succ (Br.pr ps) i)
          have hpl := Br.PSk_len (Br.pr ps) i
          obtain ⟨ao, co, eo, hco⟩ := owns_form HR.out.out
          by_cases hp : 0 < Br.pr ps i
          · have HS2 : Hid (Br.PSk (Br.pr ps) (i + 1) = Br.PSk (Br.pr ps) i ++ [(i, Br.pr ps i)]) := hide (by rw [HSU.out, if_pos hp])
            generalize Br.pr ps i = q at *
            have hp' : (0 : Int) < (q : Int) := by omega
            have ca := (Below.cell ((Below.refl wq.heap.size wq)) (p := ⟨g0, i, none⟩) (by exact (HR.out.par.lt g0 rfl).2)).trans ci
            clear HSU ca
            go_wp2_with (at_builtin; refine wpList_append_two wq rfl _ _ 123 rfl w.heap.size 127 ip _ Tryz.underlying123 HIP.out HZ0.out HZ1.out HZ2.out rfl vo (Br.PSk (Br.pr ps) i).length (flat2 (Br.PSk (Br.pr ps) i)) rfl (.int .i64 (i : Int)) (.int .i64 (q : Int)) HR.out.out _ rfl rfl (by simp [Value.oneCell']) (by omega) HR.out.bel.size ?_; intro v' w' ho' hg'; have HR2 : Hid (RO w g0 k ps (i + 1) v' w') := hide ⟨Below.grown (KO.alloc HR.out.bel _) hg' (by simp; have := HR.out.bel.size; omega) (fun j hj => (HR.out.out.lt j hj).1), by rw [HS2.out, List.length_append, flat2_snoc]; exact ho', (HR.out.par.alloc _).kept hg' (owns_apart HR.out.par HR.out.out (by decide))⟩; clear ho' hg')
            go_roundw
            case rel => exact ⟨i + 1, _, rfl, by go_num, by omega, HR2⟩
            case measure => simp [intOf]; omega
          · have HS2 : Hid (Br.PSk (Br.pr ps) (i + 1) = Br.PSk (Br.pr ps) i) := hide (by rw [HSU.out, if_neg hp, List.append_nil])
            have HR2 : Hid (RO w g0 k ps (i + 1) vo wq) := hide ⟨HR.out.bel, by rw [HS2.out]; exact HR.out.out, HR.out.par⟩
            have hp' : ¬ (0 : Int) < (Br.pr ps i : Int) := by omega
            generalize Br.pr ps i = q at *
            clear HSU HR
            go_wp2
            go_roundw
            case rel => exact ⟨i + 1, _, rfl, by go_num, by omega, HR2⟩
            case measure => simp [intOf]; omega
        · obtain rfl : i = k := by omega
          have hne9 : ¬ ((i : Int) < (i : Int)) := by omega
          obtain ⟨ao, co, eo, hpo⟩ := pairs_of_owns HR.out.out
          subst eo
          have HPO := hide hpo
          have HBE := hide HR.out.bel
          have HFR := hide (fun b o (hb : ao = some ⟨b, o, none⟩) => show w.heap.size ≤ b from (HR.out.out.lt b (by rw [hb]; rfl)).1)
          clear hpo HR
          go_wp2
          go_ret2
          exact ⟨ao, co, by rw [HPQ.out]; rfl, by rw [HPQ.out]; exact HPO.out, HBE.out, HFR.out⟩
end Go.Proofs.YtfadjgaledddjaaGreatDoor

/- The document's Side, May, has, ahead, gets (colophonref10): contracts. -/
namespace Go.Proofs.YtfadjgaledddjaaGreatDoor
open Go.RowKit
set_option linter.unusedVariables false
set_option maxHeartbeats 1000000
set_option maxRecDepth 100000
theorem dside_any (x : Int) (w : World) : Calls Tryz.prog 79 #[.int .i64 x] w fun e w' => e = .returned (.int .i64 (Br.sd x)) ∧ w = w' := by
  rcases side_cases x with rfl | ⟨h1, rfl⟩ | ⟨h1, h2, rfl⟩ | ⟨h1, h2, h3, rfl⟩ | ⟨h1, h2, h3, h4⟩
  rotate_left 4
  · have e : Br.sd x = 0 := by simp [Br.sd, h1, h2, h3, h4]
    have q1 : (x == 1) = false := beq_false_of_ne h1
    have q2 : (x == 2) = false := beq_false_of_ne h2
    have q3 : (x == 4) = false := beq_false_of_ne h3
    have q4 : (x == 7) = false := beq_false_of_ne h4
    rw [e]; clear e
    go_enter Tryz.func79, Tryz.ntmps79
    go_wp2
    go_ret
    exact ⟨rfl, rfl⟩
  all_goals
    go_enter Tryz.func79, Tryz.ntmps79
    go_wp2
    go_ret
    exact ⟨rfl, rfl⟩
theorem dmay_any (x : Int) (w : World) : Calls Tryz.prog 76 #[.int .i64 x] w fun e w' => e = .returned (.bool (Br.may x)) ∧ w = w' := by
  have HS := hide (dside_any x w)
  rcases bmay_cases x with rfl | ⟨h1, rfl⟩ | ⟨h1, h2, rfl⟩ | ⟨h1, h2, h3, rfl⟩ | ⟨h1, h2, h3, h4, rfl⟩ | ⟨h1, h2, h3, h4, h5, rfl⟩ | ⟨h1, h2, h3, h4, h5, h6, rfl⟩ | ⟨h1, h2, h3, h4, h5, h6, h7, rfl⟩ | ⟨h1, h2, h3, h4, h5, h6, h7, h8, rfl⟩ | ⟨h1, h2, h3, h4, h5, h6, h7, h8, h9, rfl⟩ | ⟨h1, h2, h3, h4, h5, h6, h7, h8, h9, h10, rfl⟩ | ⟨h1, h2, h3, h4, h5, h6, h7, h8, h9, h10, h11, rfl⟩ | ⟨h1, h2, h3, h4, h5, h6, h7, h8, h9, h10, h11, h12⟩
  rotate_left 12
  · have e : Br.may x = false := by simp [Br.may, h1, h2, h3, h4, h5, h6, h7, h8, h9, h10, h11, h12]
    have es : Br.sd x = 0 := by simp [Br.sd, h1, h2, h3, h4]
    rw [e]; rw [es] at HS; clear e es
    have q5 : (x == 11) = false := beq_false_of_ne h5
    have q6 : (x == 12) = false := beq_false_of_ne h6
    have q7 : (x == 13) = false := beq_false_of_ne h7
    have q8 : (x == 14) = false := beq_false_of_ne h8
    have q9 : (x == 20) = false := beq_false_of_ne h9
    have q10 : (x == 21) = false := beq_false_of_ne h10
    have q11 : (x == 22) = false := beq_false_of_ne h11
    have q12 : (x == 23) = false := beq_false_of_ne h12
    go_enter Tryz.func76, Tryz.ntmps76
    go_wp2_with (go_at_call 79; refine HS.out.mono ?_; rintro e w' ⟨rfl, rfl⟩)
    go_ret
    exact ⟨rfl, rfl⟩
  all_goals
    simp only [Br.sd] at HS
    go_enter Tryz.func76, Tryz.ntmps76
    go_wp2_with (go_at_call 79; refine HS.out.mono ?_; rintro e w' ⟨rfl, rfl⟩)
    go_ret
    exact ⟨rfl, rfl⟩
theorem dhas_any (ao : Option Addr) (n cap : Nat) (zs : List Int) (s : Int) (w : World) (h : Row .i64 w ao n cap zs) (hn : n ≤ 17592186044416) :
    Calls Tryz.prog 99 #[.slice ao n cap, .int .i64 s] w fun e w' => e = .returned (.bool (Br.has zs s)) ∧ w = w' := by
  have H := hide h
  have HL := hide h.len
  clear h
  go_enter Tryz.func99, Tryz.ntmps99
  go_wp2
  go_loopw [5] (fun s5 wr => ∃ k : Nat, s5 = .int .i64 (k : Int) ∧ k ≤ n ∧ Hid (Br.has (zs.take k) s = false) ∧ w = wr) (fun s5 _ => n - (intOf s5).toNat)
  case atStart => exact ⟨0, rfl, Nat.zero_le _, hide rfl, rfl⟩
  case round =>
    obtain ⟨k, rfl, hk, HA, rfl⟩ := hrel
    by_cases hlt : k < n
    · have hlt' : (k : Int) < (n : Int) := by omega
      obtain ⟨b, off, rfl, hb, hc⟩ := H.out.cells (by omega)
      have g0 := hc k (by rw [HL.out]; exact hlt)
      have HS := hide (dside_any (zs.getD k 0) w)
      have HN := hide (Br.has_next (s := s) (show k < zs.length by rw [HL.out]; exact hlt))
      clear hc hb
      by_cases hs : Br.sd (zs.getD k 0) = s
      · have HE : Hid (Br.has zs s = true) := hide (Br.has_all (i := k + 1) (by rw [HN.out, decide_eq_true hs, Bool.or_true]))
        rw [hs] at HS
        clear HN HA hs
        generalize zs.getD k 0 = x at *
        go_wp2_with (go_at_call 79; refine HS.out.mono ?_; rintro e w' ⟨rfl, rfl⟩)
        go_ret
        exact ⟨ret_bool HE.out.symm, rfl⟩
      · have HE : Hid (Br.has (zs.take (k + 1)) s = false) := hide (by rw [HN.out, HA.out, decide_eq_false hs]; rfl)
        clear HN HA
        generalize zs.getD k 0 = x at *
        generalize Br.sd x = y at *
        have hy : (y == s) = false := beq_false_of_ne hs
        go_wp2_with (go_at_call 79; refine HS.out.mono ?_; rintro e w' ⟨rfl, rfl⟩)
        go_roundw
        case rel => exact ⟨k + 1, by go_num, by omega, HE, trivial⟩
        case measure => simp [intOf]; omega
    · obtain rfl : k = n := by omega
      have hne : ¬ ((k : Int) < (k : Int)) := by omega
      have HE : Hid (Br.has zs s = false) := hide (by have := HA.out; rwa [List.take_of_length_le (by rw [HL.out]; exact Nat.le_refl _)] at this)
      clear HA
      go_wp2
      go_ret
      exact ⟨ret_bool HE.out.symm, rfl⟩
theorem dahead_any (ao : Option Addr) (n cap i : Nat) (zs : List Int) (s : Int) (w : World) (h : Row .i64 w ao n cap zs) (hi : i ≤ n) (hn : n ≤ 17592186044416) :
    Calls Tryz.prog 100 #[.slice ao n cap, .int .i64 (i : Int), .int .i64 s] w fun e w' => e = .returned (.int .i64 (Br.ah zs s i)) ∧ w = w' := by
  have H := hide h
  clear h
  go_enter Tryz.func100, Tryz.ntmps100
  go_wp2
  go_loopw [7] (fun s7 wr => ∃ k : Nat, s7 = .int .i64 ((k : Int) - 1) ∧ k ≤ i ∧ Hid (Br.ah zs s i = Br.ah zs s k) ∧ w = wr) (fun s7 _ => (intOf s7 + 1).toNat)
  case atStart => exact ⟨i, rfl, Nat.le_refl _, hide rfl, rfl⟩
  case round =>
    obtain ⟨k, rfl, hk, HA, rfl⟩ := hrel
    cases k with
    | zero =>
      have HE : Hid (Br.ah zs s i = s) := hide (by rw [HA.out]; rfl)
      clear HA
      go_wp2
      go_ret
      exact ⟨ret_int HE.out.symm, rfl⟩
    | succ k =>
      obtain ⟨b, off, rfl, hb, hc⟩ := H.out.cells (by omega)
      have g0 := hc k (by rw [H.out.len]; omega)
      have hkn : (k : Int) < (n : Int) := by omega
      have hk0 : (0 : Int) ≤ (k : Int) := by omega
      have hki : ((k + 1 : Nat) : Int) - 1 = (k : Int) := by omega
      rw [hki]
      have HS := hide (dside_any (zs.getD k 0) w)
      by_cases hs : Br.sd (zs.getD k 0) = 0
      · have HE : Hid (Br.ah zs s i = Br.ah zs s k) := hide (by rw [HA.out, Br.ah, if_pos hs])
        rw [hs] at HS
        clear HA hs hc hb
        generalize zs.getD k 0 = x at *
        go_wp2_with (go_at_call 79; refine HS.out.mono ?_; rintro e w' ⟨rfl, rfl⟩)
        go_roundw
        case rel => exact ⟨k, rfl, by omega, HE, trivial⟩
        case measure => simp [intOf]
      · have HE : Hid (Br.ah zs s i = Br.sd (zs.getD k 0)) := hide (by rw [HA.out, Br.ah, if_neg hs])
        clear HA hc hb
        generalize zs.getD k 0 = x at *
        generalize Br.sd x = y at *
        have hy : (y != 0) = true := bne_iff_ne.2 hs
        go_wp2_with (go_at_call 79; refine HS.out.mono ?_; rintro e w' ⟨rfl, rfl⟩)
        go_ret
        exact ⟨ret_int HE.out.symm, rfl⟩
theorem dgets_any (ao : Option Addr) (n cap : Nat) (T : List Int) (p q : Nat) (e s : Int) (w : World) (h : Row .i64 w ao n cap T) (hn : n ≤ 17592186044416) (h1 : p < q) (h2 : q < n) (he : e = 1 ∨ e = 2) :
    Calls Tryz.prog 78 #[.slice ao n cap, .agg #[.int .i64 (p : Int), .int .i64 (q : Int)], .int .i64 e, .int .i64 s] w fun r w' => r = .returned (.int .i64 (Br.dr T (p, q) e s)) ∧ KO w w' := by
  obtain ⟨ii, hii, _, _, _⟩ := info_parts infoInt
  have hcap := h.le
  have hmx := h.max
  unfold maxLen at hmx
  have hmid := run_mid Tryz.underlying24 hii cellsInt ao n cap (p + 1) q (by omega) (by omega)
  rw [show ((p + 1 : Nat) : Int) = (p : Int) + 1 from by omega] at hmid
  have hk1 : KO w (w.alloc (.cells #[.int .i64 (p : Int), .int .i64 (q : Int)] 127)) := KO.alloc (KO.refl _) _
  have hrI : Row .i64 (w.alloc (.cells #[.int .i64 (p : Int), .int .i64 (q : Int)] 127)) (tl ao cap (p + 1)) (q - (p + 1)) (cap - (p + 1)) (Br.ins T (p, q)) := ((h.below hk1).drop (j := p + 1) (by omega)).take (by omega)
  have HD : Hid (Br.dr T (p, q) e s = if Br.has (Br.ins T (p, q)) e = true then e else if Br.has (Br.ins T (p, q)) (3 - e) = true then (if Br.ah T s p = 3 - e then 3 - e else e) else 0) := hide rfl
  obtain ⟨g0, g1⟩ := cells2 w (.int .i64 (p : Int)) (.int .i64 (q : Int)) 127
  have HH1 := hide (dhas_any _ _ _ _ e _ hrI (by omega))
  have HH2 := hide (dhas_any _ _ _ _ (3 - e) _ hrI (by omega))
  have HAH := hide (dahead_any ao n cap p T s _ (h.below hk1) (by omega) hn)
  have HKO := hide hk1
  have he3 : (0 : Int) ≤ 3 - e ∧ 3 - e ≤ 3 := by omega
  clear h hk1 hrI hii
  generalize hW : w.alloc (.cells #[.int .i64 (p : Int), .int .i64 (q : Int)] 127) = W at *
  generalize Br.has (Br.ins T (p, q)) e = b1 at *
  generalize Br.has (Br.ins T (p, q)) (3 - e) = b2 at *
  generalize hAHV : Br.ah T s p = av at *
  cases b1 with
  | true =>
    have HX : Hid (Br.dr T (p, q) e s = e) := hide (by rw [HD.out, if_pos rfl])
    clear HD
    go_enter Tryz.func78, Tryz.ntmps78
    go_wp2_with fail
    refine HH1.out.mono ?_
    rintro e' w' ⟨rfl, rfl⟩
    go_wp2
    go_ret
    exact ⟨ret_int HX.out.symm, HKO.out⟩
  | false =>
    cases b2 with
    | false =>
      have HX : Hid (Br.dr T (p, q) e s = 0) := hide (by rw [HD.out, if_neg (by decide), if_neg (by decide)])
      clear HD
      go_enter Tryz.func78, Tryz.ntmps78
      go_wp2_with fail
      refine HH1.out.mono ?_
      rintro e' w' ⟨rfl, rfl⟩
      go_wp2_with fail
      refine HH2.out.mono ?_
      rintro e' w' ⟨rfl, rfl⟩
      go_wp2
      go_ret
      exact ⟨ret_int HX.out.symm, HKO.out⟩
    | true =>
      by_cases hah : av = 3 - e
      · have HX : Hid (Br.dr T (p, q) e s = 3 - e) := hide (by rw [HD.out, if_neg (by decide), if_pos rfl, if_pos hah])
        subst hah
        clear HD
        go_enter Tryz.func78, Tryz.ntmps78
        go_wp2_with fail
        refine HH1.out.mono ?_
        rintro e' w' ⟨rfl, rfl⟩
        go_wp2_with fail
        refine HH2.out.mono ?_
        rintro e' w' ⟨rfl, rfl⟩
        go_wp2_with fail
        refine HAH.out.mono ?_
        rintro e' w' ⟨rfl, rfl⟩
        go_wp2
        go_ret
        exact ⟨ret_int HX.out.symm, HKO.out⟩
      · have HX : Hid (Br.dr T (p, q) e s = e) := hide (by rw [HD.out, if_neg (by decide), if_pos rfl, if_neg hah])
        have hab : (av == 3 - e) = false := beq_false_of_ne hah
        clear HD
        go_enter Tryz.func78, Tryz.ntmps78
        go_wp2_with fail
        refine HH1.out.mono ?_
        rintro e' w' ⟨rfl, rfl⟩
        go_wp2_with fail
        refine HH2.out.mono ?_
        rintro e' w' ⟨rfl, rfl⟩
        go_wp2_with fail
        refine HAH.out.mono ?_
        rintro e' w' ⟨rfl, rfl⟩
        go_wp2
        go_ret
        exact ⟨ret_int HX.out.symm, HKO.out⟩
end Go.Proofs.YtfadjgaledddjaaGreatDoor

/- The document's Resolve (colophonref10): its contract. -/
namespace Go.Proofs.YtfadjgaledddjaaGreatDoor
open Go.RowKit
set_option linter.unusedVariables false
set_option maxHeartbeats 4000000
set_option maxRecDepth 100000
namespace Br
def pl (x y q : Nat) : Nat := if q = 0 then x else y
/-- Behind q of a pair's places. -/
def gd (was F : List Int) (d : Int) (x y q : Nat) : List Int := if q = 0 then F else if q = 1 then give was F d x else two was F d (x, y)
theorem gd_step (was F : List Int) (d : Int) (x y q : Nat) (h : q < 2) : gd was F d x y (q + 1) = give was (gd was F d x y q) d (pl x y q) := by
  have h2 : q = 0 ∨ q = 1 := by omega
  rcases h2 with rfl | rfl <;> rfl
end Br
/-- A row of the call's own, and what else lay when it began to be written. -/
structure RV10 (w0 w3 : World) (B g n cap : Nat) (zs : List Int) (w : World) : Prop where
  own : w.ownsRow B 3 1 (.slice (some ⟨g, 0, none⟩) n cap) n (zs.map (Value.int .i64))
  bel : Below w0.heap.size w0 w
  sz : w3.heap.size ≤ w.heap.size
  oth : ∀ j, ¬ j = g → j < w3.heap.size → w.heap[j]? = w3.heap[j]?
section
variable {w0 w3 : World} {B g n cap : Nat} {zs : List Int} {w : World}
theorem RV10.set (h : RV10 w0 w3 B g n cap zs w) (hg : w0.heap.size ≤ g) (k : Nat) (y : Int) : RV10 w0 w3 B g n cap (zs.set k y) (w.setCell ⟨g, k, none⟩ (.int .i64 y)) :=
  ⟨owns_set h.own k y, h.bel.setCell (p := ⟨g, k, none⟩) hg _, by rw [size_set]; exact h.sz, fun j hj hl => (set_other w g k j _ hj).trans (h.oth j hj hl)⟩
theorem RV10.keep (h : RV10 w0 w3 B g n cap zs w) {w' : World} (hk : KO w w') : RV10 w0 w3 B g n cap zs w' :=
  ⟨owns_below h.own hk, KO.on h.bel hk, Nat.le_trans h.sz hk.size, fun j hj hl => (hk.block j (Nat.lt_of_lt_of_le hl h.sz)).trans (h.oth j hj hl)⟩
end
theorem dresolve_any (a0 a1 a2 : Option Addr) (n0 n1 n2 c0 c1 c2 : Nat) (l was t : List Int) (lv s : Int) (w : World) (h0 : Row .i32 w a0 n0 c0 l) (h1 : Row .i64 w a1 n1 c1 was) (h2 : Row .i64 w a2 n2 c2 t) (hf : ∀ x ∈ l, (Lit.int .i32 x).wf = true) (hn : n0 ≤ 80000) :
    Calls Tryz.prog 45 #[.slice a0 n0 c0, .slice a1 n1 c1, .slice a2 n2 c2, .int .i64 lv, .int .i64 s] w (R10 w (Br.RA l was t lv s)) := by
  have hn1 : n1 ≤ 9223372036854775807 := by have h3 := h1.le; have h4 := h1.max; unfold maxLen at h4; omega
  have hn2 : n2 ≤ 9223372036854775807 := by have h3 := h2.le; have h4 := h2.max; unfold maxLen at h4; omega
  have e0 := h0.len
  have e1 := h1.len
  have e2 := h2.len
  by_cases hA : (n0 = n1 ∧ n0 = n2) ∧ (0 ≤ lv ∧ lv ≤ 126) ∧ (s = 1 ∨ s = 2)
  · obtain ⟨⟨rfl, rfl⟩, ⟨hl0, hl1⟩, hs⟩ := hA
    have q1 : ¬ (lv < 0) := by omega
    have q2 : ¬ (126 < lv) := by omega
    have qn : ((n0 : Int) != (n0 : Int)) = false := by simp
    have HPR := hide (fun W (hk : KO w W) => rpairs_ok a0 a2 n0 c0 c2 l t W (h0.below hk) (h2.below hk) hf hn)
    have HARG : Hid (Br.Arg l.length was.length t.length lv s) := hide ⟨⟨by omega, by omega⟩, ⟨hl0, hl1⟩, hs⟩
    have H1 := hide h1
    have H2 := hide h2
    have HL := hide e2
    have HL1 := hide e1
    have HLL := hide e0
    have hes := Br.es_cases lv
    obtain ⟨ii, hii, hy0, hy1, hy2⟩ := info_parts infoInt
    have HII := hide hii
    have HY0 := hide hy0
    have HY1 := hide hy1
    have HY2 := hide hy2
    have htm : lv.tmod 2 = lv % 2 := Int.tmod_eq_emod_of_nonneg hl0
    have h2c : (lv % 2 = 1 ∧ Br.es lv = 2) ∨ (lv % 2 = 0 ∧ Br.es lv = 1) := by unfold Br.es; split <;> omega
    clear h0 h1 h2 hf hii hy0 hy1 hy2 e0 e1 e2
    have hsb' : ((s != 1) = false) ∨ ((s != 1) = true ∧ (s != 2) = false) := by rcases hs with rfl | rfl <;> decide
    have hsb : (s != 1 && s != 2) = false := by rcases hs with rfl | rfl <;> rfl
    have HPL : Hid (∀ j, j < (Br.PP l t).length → ((Br.PP l t).getD j (0, 0)).1 < ((Br.PP l t).getD j (0, 0)).2 ∧ ((Br.PP l t).getD j (0, 0)).2 < n0) := hide fun j hj => by have := Br.PP_lt hj; rw [HLL.out] at this; exact this
    have HTP : Hid (∀ j, j < (Br.PP l t).length → (Br.PP l t).take (j + 1) = (Br.PP l t).take j ++ [(Br.PP l t).getD j (0, 0)]) := hide fun j hj => Br.take_pair hj
    have HTA : Hid ((Br.PP l t).take (Br.PP l t).length = Br.PP l t) := hide (List.take_of_length_le (Nat.le_refl _))
    have HOK : Hid (t.all Br.may = true → Br.RA l was t lv s = (0, Br.rs was (Br.es lv) s t (Br.PP l t))) := hide fun h => Br.RA_ok HARG.out h
    clear hs
    go_enter Tryz.func45, Tryz.ntmps45
    rcases hsb' with hs1 | ⟨hs1, hs2⟩
    all_goals
      go_wp2
      go_loopw [12] (fun v wr => ∃ k : Nat, v = .int .i64 (k : Int) ∧ k ≤ n0 ∧ Hid (∀ i, i < k → Br.may (t.getD i 0) = true) ∧ w = wr) (fun v _ => n0 - (intOf v).toNat)
      case atStart => exact ⟨0, rfl, Nat.zero_le _, hide (fun i hi => by omega), rfl⟩
      case round =>
        obtain ⟨k, rfl, hk, HM, rfl⟩ := hrel
        by_cases hlt : k < n0
        · have hlt' : (k : Int) < (n0 : Int) := by omega
          obtain ⟨b, off, eb, hb, hc⟩ := H2.out.cells (by omega)
          have gk := hc k (by rw [HL.out]; exact hlt)
          subst eb
          have HMB := hide (dmay_any (t.getD k 0) w)
          clear hc hb
          cases hmay : Br.may (t.getD k 0) with
          | true =>
            have HM2 : Hid (∀ i, i < k + 1 → Br.may (t.getD i 0) = true) := hide fun i hi => by
              rcases Nat.lt_succ_iff_lt_or_eq.1 hi with h | h
              · exact HM.out i h
              · rw [h]; exact hmay
            rw [hmay] at HMB
            clear HM hmay
            generalize t.getD k 0 = x at *
            go_wp2_with (go_at_call 76; refine HMB.out.mono ?_; rintro e w' ⟨rfl, rfl⟩)
            go_roundw
            case rel => exact ⟨k + 1, by go_num, by omega, HM2, trivial⟩
            case measure => simp [intOf]; omega
          | false =>
            have HF := hide (Br.RA_form HARG.out (Br.all_no (by rw [HL.out]; exact hlt) hmay))
            rw [hmay] at HMB
            clear HM hmay
            generalize t.getD k 0 = x at *
            go_wp2_with (go_at_call 76; refine HMB.out.mono ?_; rintro e w' ⟨rfl, rfl⟩)
            go_ret2
            exact R10.err HF.out (KO.refl _)
        · obtain rfl : k = n0 := by omega
          have hne : ¬ ((k : Int) < (k : Int)) := by omega
          have HR := hide (HOK.out (Br.all_yes (fun i hi => HM.out i (by rw [HL.out] at hi; exact hi))))
          clear HM hlt HOK HARG
          obtain ⟨W1, hW1⟩ : ∃ W1, w.alloc (.cells #[] 3) = W1 := ⟨_, rfl⟩
          have hkW : KO w W1 := by rw [← hW1]; exact KO.alloc (KO.refl _) _
          have HO1 := hide (show W1.ownsRow w.heap.size 3 1 (.slice (some ⟨w.heap.size, 0, none⟩) 0 0) 0 [] from by rw [← hW1]; exact owns_empty w 3 w.heap.size rfl)
          have HRT := hide (H2.out.below hkW)
          have HKW := hide hkW
          clear hkW
          rcases h2c with ⟨hp2, hev⟩ | ⟨hp2, hev⟩
          · rw [hev] at HR
            rw [hp2] at htm
            clear hev hp2 hes
            generalize hPS : Br.PP l t = PS at *
            generalize hPN : PS.length = pn at *
            go_wp2_with (at_builtin; refine wpList_append_row W1 (by rfl) (.tmp 64) (.tmp 65) 24 rfl w.heap.size 3 ii (.int .i64 0) 8 Tryz.underlying24 HII.out HY0.out HY1.out HY2.out rfl _ 0 _ rfl HO1.out .i64 a2 k c2 t rfl HRT.out (by omega) (by omega) HKW.out.size ?_; intro v2 W2 ho2 hb2; clear hW1; rw [Nat.zero_add, List.nil_append] at ho2; obtain ⟨av, cv, hv2, hr2⟩ := row_of_owns ho2; subst hv2)
            have HKW2 := hide (show KO w W2 from HKW.out.trans hb2)
            refine (HPR.out W2 HKW2.out).mono ?_
            rintro e w3 ⟨ap, cp, rfl, hp3, hk3, hfr⟩
            clear hPS
            have HKW3 := hide (KO.on HKW2.out hk3)
            have HPP := hide hp3
            have HFR := hide hfr
            have hpm := hp3.max
            have hpl := hp3.le
            unfold maxLen at hpm
            have HROW : Hid (Row .i64 w3 av k cv (Br.rs was 2 s t (PS.take 0))) := hide (hr2.below hk3)
            have HRV : Hid (0 < k → ∃ g, av = some ⟨g, 0, none⟩ ∧ g < W2.heap.size ∧ w.heap.size ≤ g ∧ RV10 w w3 w.heap.size g k cv (Br.rs was 2 s t (PS.take 0)) w3) := hide fun hk0 => by
              obtain ⟨g, cap', ev, hbg, _⟩ := owns_pos ho2 hk0
              simp only [Value.slice.injEq] at ev
              obtain ⟨rfl, _, rfl⟩ := ev
              exact ⟨g, rfl, (ho2.lt g rfl).2, hbg, ⟨owns_below ho2 hk3, HKW3.out, Nat.le_refl _, fun j _ _ => rfl⟩⟩
            clear ho2 hb2 hr2 hp3 hk3 hfr HO1 HRT HKW HPR
            go_wp2
            go_loopw [17] (fun v wr => ∃ j : Nat, v = .int .i64 (j : Int) ∧ j ≤ pn ∧ Hid (Row .i64 wr av k cv (Br.rs was 2 s t (PS.take j))) ∧ Hid (KO w wr) ∧ Hid (0 < k → ∃ g, av = some ⟨g, 0, none⟩ ∧ g < W2.heap.size ∧ w.heap.size ≤ g ∧ RV10 w w3 w.heap.size g k cv (Br.rs was 2 s t (PS.take j)) wr)) (fun v _ => pn - (intOf v).toNat)
            case atStart => exact ⟨0, rfl, Nat.zero_le _, HROW, HKW3, HRV⟩
            case round =>
              rename World => wr
              obtain ⟨j, rfl, hj, HJR, HJK, HJV⟩ := hrel
              clear HROW HRV
              by_cases hjn : j < pn
              · have hjn' : (j : Int) < (pn : Int) := by omega
                obtain ⟨k1, k2⟩ := HPL.out j hjn
                obtain ⟨g, eg, hg2, hgw, hrv⟩ := HJV.out (by omega)
                subst eg
                obtain ⟨b, eb, hb, hc⟩ := HPP.out.cells (by omega)
                obtain ⟨t0, t1⟩ := hc j hjn
                have hbf := HFR.out b 0 eb
                subst eb
                have HBW := hide (fun (W : World) (T : List Int) (hr : RV10 w w3 w.heap.size g k cv T W) => show W.heap[b]? = w3.heap[b]? from hr.oth b (by omega) hb)
                have HSN : Hid (Br.rs was 2 s t (PS.take (j + 1)) = Br.one was 2 s (Br.rs was 2 s t (PS.take j)) (PS.getD j (0, 0))) := hide (by rw [HTP.out j hjn, Br.rs_snoc])
                generalize Br.rs was 2 s t (PS.take j) = T at *
                generalize PS.getD j (0, 0) = pp at *
                obtain ⟨x, y⟩ := pp
                simp only at t0 t1 k1 k2
                have HT0 := hide (fun (W : World) (T : List Int) (hr : RV10 w w3 w.heap.size g k cv T W) => show W.cell? ⟨b, j * 2, none⟩ = some (.int .i64 (x : Int)) ∧ W.cell? ⟨b, j * 2 + 1, none⟩ = some (.int .i64 (y : Int)) from ⟨(World.cell?_of_block (HBW.out W T hr)).trans t0, (World.cell?_of_block (HBW.out W T hr)).trans t1⟩)
                have HRVJ := hide hrv
                obtain ⟨s0, s1⟩ := HT0.out wr T hrv
                have HGT := hide (dgets_any (some ⟨g, 0, none⟩) k cv T x y 2 s wr HJR.out (by omega) k1 k2 (by omega))
                have HGW := hide hgw
                have HG2 := hide hg2
                clear hc hb hrv t0 t1 HBW HJR HJV hbf
                go_wp2_with fail
                refine HGT.out.mono ?_
                rintro e w5 ⟨rfl, hk5⟩
                have HV5 := hide (HRVJ.out.keep hk5)
                clear hk5 HGT HRVJ s0 s1 HJK
                by_cases hd : Br.dr T (x, y) 2 s = 0
                · have HN : Hid (Br.rs was 2 s t (PS.take (j + 1)) = T) := hide (by rw [HSN.out]; unfold Br.one; rw [if_pos hd])
                  rw [hd]
                  clear HSN hd
                  go_wp2
                  go_loopw [19] (fun v wi => v = .int .i64 0 ∧ w5 = wi) (fun v _ => 0)
                  case atStart => exact ⟨rfl, rfl⟩
                  case round =>
                    rename World => wi
                    obtain ⟨rfl, rfl⟩ := hrel
                    go_wp2
                    go_roundw
                    case rel => exact ⟨j + 1, by go_num, by omega, by rw [HN.out]; exact hide (row_owned HV5.out.own), hide HV5.out.bel, by rw [HN.out]; exact hide fun _ => ⟨g, rfl, HG2.out, HGW.out, HV5.out⟩⟩
                    case measure => simp [intOf]; omega
                · have HN : Hid (Br.rs was 2 s t (PS.take (j + 1)) = Br.gd was T (Br.dr T (x, y) 2 s) x y 2) := hide (by rw [HSN.out]; unfold Br.one; rw [if_neg hd]; rfl)
                  generalize Br.dr T (x, y) 2 s = dd at *
                  have hdb : (dd != 0) = true := bne_iff_ne.2 hd
                  clear HSN hd
                  go_wp2
                  go_loopw [19] (fun v wi => ∃ q : Nat, v = .int .i64 (q : Int) ∧ q ≤ 2 ∧ Hid (RV10 w w3 w.heap.size g k cv (Br.gd was T dd x y q) wi)) (fun v _ => 2 - (intOf v).toNat)
                  case atStart => exact ⟨0, rfl, by omega, HV5⟩
                  case round =>
                    rename World => wi
                    obtain ⟨q, rfl, hq, HQ⟩ := hrel
                    clear HV5
                    by_cases hq2 : q < 2
                    · have hq2' : (q : Int) < 2 := by omega
                      have HGS := hide (Br.gd_step was T dd x y q hq2)
                      have hcell : wi.cell? ⟨b, j * 2 + q, none⟩ = some (.int .i64 (Br.pl x y q : Int)) := by
                        obtain ⟨u0, u1⟩ := HT0.out wi _ HQ.out
                        have h2 : q = 0 ∨ q = 1 := by omega
                        rcases h2 with rfl | rfl
                        · exact u0
                        · exact u1
                      have hpl1 : Br.pl x y q < k := by unfold Br.pl; split <;> omega
                      generalize Br.pl x y q = p at *
                      generalize Br.gd was T dd x y q = G at *
                      have hp' : (p : Int) < (k : Int) := by omega
                      have cc := owns_cell HQ.out.own p hpl1
                      have ff := HQ.out.own.frozenAt p
                      have HQ1 := hide (HQ.out.set HGW.out p dd)
                      rw [Br.setR_one] at HQ1
                      generalize G.getD p 0 = old at cc
                      clear HQ
                      go_wp2
                      generalize hW9 : wi.setCell ⟨g, p, none⟩ (.int .i64 dd) = W9 at *
                      clear hW9 cc ff hcell
                      go_loopw [20] (fun v wk => ∃ i : Nat, v = .int .i64 (i : Int) ∧ p ≤ i ∧ i < k ∧ Hid (Br.nx was (p + 1) = Br.nx was (i + 1)) ∧ Hid (RV10 w w3 w.heap.size g k cv (Br.setR G dd p (i + 1)) wk)) (fun v _ => k - (intOf v).toNat)
                      case atStart => exact ⟨p, rfl, Nat.le_refl _, hpl1, hide rfl, HQ1⟩
                      case round =>
                        rename World => wk
                        obtain ⟨i, rfl, hi1, hi2, HNX, HO⟩ := hrel
                        clear HQ1
                        by_cases hik : i + 1 < k
                        · have hik' : (i : Int) + 1 < (k : Int) := by omega
                          obtain ⟨bw, ow, ew, _, hcw⟩ := (H1.out.below HO.out.bel).cells (by omega)
                          have gk := hcw (i + 1) (by rw [HL1.out]; exact hik)
                          subst ew
                          clear hcw
                          by_cases h9 : was.getD (i + 1) 0 = 9
                          · have HN2 : Hid (Br.nx was (p + 1) = Br.nx was (i + 1 + 1)) := hide (by rw [HNX.out]; exact Br.nx_more (by rw [HL1.out]; exact hik) h9)
                            rw [h9] at gk
                            have ck := owns_cell HO.out.own (i + 1) hik
                            have fk := HO.out.own.frozenAt (i + 1)
                            have HO2 := hide (HO.out.set HGW.out (i + 1) dd)
                            rw [Br.setR_snoc _ _ _ _ (by omega)] at HO2
                            clear HNX h9 HO
                            generalize (Br.setR G dd p (i + 1)).getD (i + 1) 0 = old2 at ck
                            go_wp2
                            go_roundw
                            case rel => exact ⟨i + 1, by go_num, by omega, hik, HN2, HO2⟩
                            case measure => simp [intOf]; omega
                          · have HX2 : Hid (Br.gd was T dd x y (q + 1) = Br.setR G dd p (i + 1)) := hide (by rw [HGS.out]; show Br.setR G dd p (Br.nx was (p + 1)) = _; rw [HNX.out, Br.nx_stop (fun h => h9 h.2)])
                            have h9b : (was.getD (i + 1) 0 == 9) = false := beq_false_of_ne h9
                            clear HNX h9
                            generalize was.getD (i + 1) 0 = v9 at *
                            go_wp2
                            go_roundw
                            case rel => exact ⟨q + 1, by go_num, by omega, by rw [HX2.out]; exact HO⟩
                            case measure => simp [intOf]; omega
                        · have hik' : ¬ (i : Int) + 1 < (k : Int) := by omega
                          have HX2 : Hid (Br.gd was T dd x y (q + 1) = Br.setR G dd p (i + 1)) := hide (by rw [HGS.out]; show Br.setR G dd p (Br.nx was (p + 1)) = _; rw [HNX.out, Br.nx_stop (fun h => by have := h.1; have := HL1.out; omega)])
                          clear HNX
                          go_wp2
                          go_roundw
                          case rel => exact ⟨q + 1, by go_num, by omega, by rw [HX2.out]; exact HO⟩
                          case measure => simp [intOf]; omega
                    · obtain rfl : q = 2 := by omega
                      go_wp2
                      go_roundw
                      case rel => exact ⟨j + 1, by go_num, by omega, by rw [HN.out]; exact hide (row_owned HQ.out.own), hide HQ.out.bel, by rw [HN.out]; exact hide fun _ => ⟨g, rfl, HG2.out, HGW.out, HQ.out⟩⟩
                      case measure => simp [intOf]; omega
              · obtain rfl : j = pn := by omega
                have hne2 : ¬ ((j : Int) < (j : Int)) := by omega
                rw [HTA.out] at HJR
                have HLN : Hid (k = (Br.rs was 2 s t PS).length) := hide (by rw [Br.rs_len, HL.out])
                clear HJV
                go_wp2
                go_ret2
                rw [HR.out]
                refine ⟨av, cv, ?_, ?_, HJK.out⟩
                · simp only [← HLN.out]; rfl
                · simp only [← HLN.out]; exact HJR.out
          · rw [hev] at HR
            rw [hp2] at htm
            clear hev hp2 hes
            generalize hPS : Br.PP l t = PS at *
            generalize hPN : PS.length = pn at *
            go_wp2_with (at_builtin; refine wpList_append_row W1 (by rfl) (.tmp 64) (.tmp 65) 24 rfl w.heap.size 3 ii (.int .i64 0) 8 Tryz.underlying24 HII.out HY0.out HY1.out HY2.out rfl _ 0 _ rfl HO1.out .i64 a2 k c2 t rfl HRT.out (by omega) (by omega) HKW.out.size ?_; intro v2 W2 ho2 hb2; clear hW1; rw [Nat.zero_add, List.nil_append] at ho2; obtain ⟨av, cv, hv2, hr2⟩ := row_of_owns ho2; subst hv2)
            have HKW2 := hide (show KO w W2 from HKW.out.trans hb2)
            refine (HPR.out W2 HKW2.out).mono ?_
            rintro e w3 ⟨ap, cp, rfl, hp3, hk3, hfr⟩
            clear hPS
            have HKW3 := hide (KO.on HKW2.out hk3)
            have HPP := hide hp3
            have HFR := hide hfr
            have hpm := hp3.max
            have hpl := hp3.le
            unfold maxLen at hpm
            have HROW : Hid (Row .i64 w3 av k cv (Br.rs was 1 s t (PS.take 0))) := hide (hr2.below hk3)
            have HRV : Hid (0 < k → ∃ g, av = some ⟨g, 0, none⟩ ∧ g < W2.heap.size ∧ w.heap.size ≤ g ∧ RV10 w w3 w.heap.size g k cv (Br.rs was 1 s t (PS.take 0)) w3) := hide fun hk0 => by
              obtain ⟨g, cap', ev, hbg, _⟩ := owns_pos ho2 hk0
              simp only [Value.slice.injEq] at ev
              obtain ⟨rfl, _, rfl⟩ := ev
              exact ⟨g, rfl, (ho2.lt g rfl).2, hbg, ⟨owns_below ho2 hk3, HKW3.out, Nat.le_refl _, fun j _ _ => rfl⟩⟩
            clear ho2 hb2 hr2 hp3 hk3 hfr HO1 HRT HKW HPR
            go_wp2
            go_loopw [17] (fun v wr => ∃ j : Nat, v = .int .i64 (j : Int) ∧ j ≤ pn ∧ Hid (Row .i64 wr av k cv (Br.rs was 1 s t (PS.take j))) ∧ Hid (KO w wr) ∧ Hid (0 < k → ∃ g, av = some ⟨g, 0, none⟩ ∧ g < W2.heap.size ∧ w.heap.size ≤ g ∧ RV10 w w3 w.heap.size g k cv (Br.rs was 1 s t (PS.take j)) wr)) (fun v _ => pn - (intOf v).toNat)
            case atStart => exact ⟨0, rfl, Nat.zero_le _, HROW, HKW3, HRV⟩
            case round =>
              rename World => wr
              obtain ⟨j, rfl, hj, HJR, HJK, HJV⟩ := hrel
              clear HROW HRV
              by_cases hjn : j < pn
              · have hjn' : (j : Int) < (pn : Int) := by omega
                obtain ⟨k1, k2⟩ := HPL.out j hjn
                obtain ⟨g, eg, hg2, hgw, hrv⟩ := HJV.out (by omega)
                subst eg
                obtain ⟨b, eb, hb, hc⟩ := HPP.out.cells (by omega)
                obtain ⟨t0, t1⟩ := hc j hjn
                have hbf := HFR.out b 0 eb
                subst eb
                have HBW := hide (fun (W : World) (T : List Int) (hr : RV10 w w3 w.heap.size g k cv T W) => show W.heap[b]? = w3.heap[b]? from hr.oth b (by omega) hb)
                have HSN : Hid (Br.rs was 1 s t (PS.take (j + 1)) = Br.one was 1 s (Br.rs was 1 s t (PS.take j)) (PS.getD j (0, 0))) := hide (by rw [HTP.out j hjn, Br.rs_snoc])
                generalize Br.rs was 1 s t (PS.take j) = T at *
                generalize PS.getD j (0, 0) = pp at *
                obtain ⟨x, y⟩ := pp
                simp only at t0 t1 k1 k2
                have HT0 := hide (fun (W : World) (T : List Int) (hr : RV10 w w3 w.heap.size g k cv T W) => show W.cell? ⟨b, j * 2, none⟩ = some (.int .i64 (x : Int)) ∧ W.cell? ⟨b, j * 2 + 1, none⟩ = some (.int .i64 (y : Int)) from ⟨(World.cell?_of_block (HBW.out W T hr)).trans t0, (World.cell?_of_block (HBW.out W T hr)).trans t1⟩)
                have HRVJ := hide hrv
                obtain ⟨s0, s1⟩ := HT0.out wr T hrv
                have HGT := hide (dgets_any (some ⟨g, 0, none⟩) k cv T x y 1 s wr HJR.out (by omega) k1 k2 (by omega))
                have HGW := hide hgw
                have HG2 := hide hg2
                clear hc hb hrv t0 t1 HBW HJR HJV hbf
                go_wp2_with fail
                refine HGT.out.mono ?_
                rintro e w5 ⟨rfl, hk5⟩
                have HV5 := hide (HRVJ.out.keep hk5)
                clear hk5 HGT HRVJ s0 s1 HJK
                by_cases hd : Br.dr T (x, y) 1 s = 0
                · have HN : Hid (Br.rs was 1 s t (PS.take (j + 1)) = T) := hide (by rw [HSN.out]; unfold Br.one; rw [if_pos hd])
                  rw [hd]
                  clear HSN hd
                  go_wp2
                  go_loopw [19] (fun v wi => v = .int .i64 0 ∧ w5 = wi) (fun v _ => 0)
                  case atStart => exact ⟨rfl, rfl⟩
                  case round =>
                    rename World => wi
                    obtain ⟨rfl, rfl⟩ := hrel
                    go_wp2
                    go_roundw
                    case rel => exact ⟨j + 1, by go_num, by omega, by rw [HN.out]; exact hide (row_owned HV5.out.own), hide HV5.out.bel, by rw [HN.out]; exact hide fun _ => ⟨g, rfl, HG2.out, HGW.out, HV5.out⟩⟩
                    case measure => simp [intOf]; omega
                · have HN : Hid (Br.rs was 1 s t (PS.take (j + 1)) = Br.gd was T (Br.dr T (x, y) 1 s) x y 2) := hide (by rw [HSN.out]; unfold Br.one; rw [if_neg hd]; rfl)
                  generalize Br.dr T (x, y) 1 s = dd at *
                  have hdb : (dd != 0) = true := bne_iff_ne.2 hd
                  clear HSN hd
                  go_wp2
                  go_loopw [19] (fun v wi => ∃ q : Nat, v = .int .i64 (q : Int) ∧ q ≤ 2 ∧ Hid (RV10 w w3 w.heap.size g k cv (Br.gd was T dd x y q) wi)) (fun v _ => 2 - (intOf v).toNat)
                  case atStart => exact ⟨0, rfl, by omega, HV5⟩
                  case round =>
                    rename World => wi
                    obtain ⟨q, rfl, hq, HQ⟩ := hrel
                    clear HV5
                    by_cases hq2 : q < 2
                    · have hq2' : (q : Int) < 2 := by omega
                      have HGS := hide (Br.gd_step was T dd x y q hq2)
                      have hcell : wi.cell? ⟨b, j * 2 + q, none⟩ = some (.int .i64 (Br.pl x y q : Int)) := by
                        obtain ⟨u0, u1⟩ := HT0.out wi _ HQ.out
                        have h2 : q = 0 ∨ q = 1 := by omega
                        rcases h2 with rfl | rfl
                        · exact u0
                        · exact u1
                      have hpl1 : Br.pl x y q < k := by unfold Br.pl; split <;> omega
                      generalize Br.pl x y q = p at *
                      generalize Br.gd was T dd x y q = G at *
                      have hp' : (p : Int) < (k : Int) := by omega
                      have cc := owns_cell HQ.out.own p hpl1
                      have ff := HQ.out.own.frozenAt p
                      have HQ1 := hide (HQ.out.set HGW.out p dd)
                      rw [Br.setR_one] at HQ1
                      generalize G.getD p 0 = old at cc
                      clear HQ
                      go_wp2
                      generalize hW9 : wi.setCell ⟨g, p, none⟩ (.int .i64 dd) = W9 at *
                      clear hW9 cc ff hcell
                      go_loopw [20] (fun v wk => ∃ i : Nat, v = .int .i64 (i : Int) ∧ p ≤ i ∧ i < k ∧ Hid (Br.nx was (p + 1) = Br.nx was (i + 1)) ∧ Hid (RV10 w w3 w.heap.size g k cv (Br.setR G dd p (i + 1)) wk)) (fun v _ => k - (intOf v).toNat)
                      case atStart => exact ⟨p, rfl, Nat.le_refl _, hpl1, hide rfl, HQ1⟩
                      case round =>
                        rename World => wk
                        obtain ⟨i, rfl, hi1, hi2, HNX, HO⟩ := hrel
                        clear HQ1
                        by_cases hik : i + 1 < k
                        · have hik' : (i : Int) + 1 < (k : Int) := by omega
                          obtain ⟨bw, ow, ew, _, hcw⟩ := (H1.out.below HO.out.bel).cells (by omega)
                          have gk := hcw (i + 1) (by rw [HL1.out]; exact hik)
                          subst ew
                          clear hcw
                          by_cases h9 : was.getD (i + 1) 0 = 9
                          · have HN2 : Hid (Br.nx was (p + 1) = Br.nx was (i + 1 + 1)) := hide (by rw [HNX.out]; exact Br.nx_more (by rw [HL1.out]; exact hik) h9)
                            rw [h9] at gk
                            have ck := owns_cell HO.out.own (i + 1) hik
                            have fk := HO.out.own.frozenAt (i + 1)
                            have HO2 := hide (HO.out.set HGW.out (i + 1) dd)
                            rw [Br.setR_snoc _ _ _ _ (by omega)] at HO2
                            clear HNX h9 HO
                            generalize (Br.setR G dd p (i + 1)).getD (i + 1) 0 = old2 at ck
                            go_wp2
                            go_roundw
                            case rel => exact ⟨i + 1, by go_num, by omega, hik, HN2, HO2⟩
                            case measure => simp [intOf]; omega
                          · have HX2 : Hid (Br.gd was T dd x y (q + 1) = Br.setR G dd p (i + 1)) := hide (by rw [HGS.out]; show Br.setR G dd p (Br.nx was (p + 1)) = _; rw [HNX.out, Br.nx_stop (fun h => h9 h.2)])
                            have h9b : (was.getD (i + 1) 0 == 9) = false := beq_false_of_ne h9
                            clear HNX h9
                            generalize was.getD (i + 1) 0 = v9 at *
                            go_wp2
                            go_roundw
                            case rel => exact ⟨q + 1, by go_num, by omega, by rw [HX2.out]; exact HO⟩
                            case measure => simp [intOf]; omega
                        · have hik' : ¬ (i : Int) + 1 < (k : Int) := by omega
                          have HX2 : Hid (Br.gd was T dd x y (q + 1) = Br.setR G dd p (i + 1)) := hide (by rw [HGS.out]; show Br.setR G dd p (Br.nx was (p + 1)) = _; rw [HNX.out, Br.nx_stop (fun h => by have := h.1; have := HL1.out; omega)])
                          clear HNX
                          go_wp2
                          go_roundw
                          case rel => exact ⟨q + 1, by go_num, by omega, by rw [HX2.out]; exact HO⟩
                          case measure => simp [intOf]; omega
                    · obtain rfl : q = 2 := by omega
                      go_wp2
                      go_roundw
                      case rel => exact ⟨j + 1, by go_num, by omega, by rw [HN.out]; exact hide (row_owned HQ.out.own), hide HQ.out.bel, by rw [HN.out]; exact hide fun _ => ⟨g, rfl, HG2.out, HGW.out, HQ.out⟩⟩
                      case measure => simp [intOf]; omega
              · obtain rfl : j = pn := by omega
                have hne2 : ¬ ((j : Int) < (j : Int)) := by omega
                rw [HTA.out] at HJR
                have HLN : Hid (k = (Br.rs was 1 s t PS).length) := hide (by rw [Br.rs_len, HL.out])
                clear HJV
                go_wp2
                go_ret2
                rw [HR.out]
                refine ⟨av, cv, ?_, ?_, HJK.out⟩
                · simp only [← HLN.out]; rfl
                · simp only [← HLN.out]; exact HJR.out
  · have HR := hide (Br.RA_arg (l := l) (was := was) (t := t) (lv := lv) (s := s) (fun h => hA ⟨by have := h.1; omega, h.2⟩))
    have hc : (¬ n0 = n1) ∨ (n0 = n1 ∧ ¬ n0 = n2) ∨ (n0 = n1 ∧ n0 = n2 ∧ lv < 0) ∨ (n0 = n1 ∧ n0 = n2 ∧ ¬ lv < 0 ∧ 126 < lv) ∨ (n0 = n1 ∧ n0 = n2 ∧ ¬ lv < 0 ∧ ¬ 126 < lv ∧ ¬ s = 1 ∧ ¬ s = 2) := by omega
    clear h0 h1 h2 hf hA e0 e1 e2
    rcases hc with q1 | ⟨rfl, q1⟩ | ⟨rfl, rfl, q1⟩ | ⟨rfl, rfl, q1, q2⟩ | ⟨rfl, rfl, q1, q2, q3, q4⟩
    · have qn : ((n0 : Int) != (n1 : Int)) = true := bne_iff_ne.2 (by omega)
      go_enter Tryz.func45, Tryz.ntmps45
      go_wp2
      go_ret2
      exact R10.err HR.out (KO.refl _)
    · have qn : ((n0 : Int) != (n2 : Int)) = true := bne_iff_ne.2 (by omega)
      go_enter Tryz.func45, Tryz.ntmps45
      go_wp2
      go_ret2
      exact R10.err HR.out (KO.refl _)
    rotate_left 2
    · have q3b : (s != 1) = true := bne_iff_ne.2 q3
      have q4b : (s != 2) = true := bne_iff_ne.2 q4
      go_enter Tryz.func45, Tryz.ntmps45
      go_wp2
      go_ret2
      exact R10.err HR.out (KO.refl _)
    all_goals
      go_enter Tryz.func45, Tryz.ntmps45
      go_wp2
      go_ret2
      exact R10.err HR.out (KO.refl _)
end Go.Proofs.YtfadjgaledddjaaGreatDoor

/- Copies of lists ('append([]T{}, l...)') that one statement makes beside one another, in whatever order. -/
namespace Go.Proofs.YtfadjgaledddjaaGreatDoor
open Go.RowKit
set_option linter.unusedVariables false
set_option maxHeartbeats 1000000
set_option maxRecDepth 100000
/-- Nothing is appended to nothing. -/
theorem run_append_zero {P : Program} (w : World) (t ty e : TypeId) (i : TypeInfo) (ht : P.underlying t = some (.slice e)) (hi : P.info? e = some i) (ag : Addr) (ao : Option Addr) (c : Nat) :
    (Builtin.append_ #[t, t] ty #[.slice (some ag) 0 0, .slice ao 0 c]).run P w = .ok (.slice (some ag) 0 0) w := by
  cases ao with
  | none => simp [Builtin.append_, run_underlying ht, sizeOf, typeInfo, hi, Builtin.lenOf, Builtin.firstCells, storeCells]
  | some ad =>
    have hf := run_firstCells_some (P := P) w i.size 0 ad 0 c [] (by simp) (by simp)
    simp [Builtin.append_, run_underlying ht, sizeOf, typeInfo, hi, Builtin.lenOf, hf, storeCells]
theorem run_append_fresh {P : Program} (w : World) (t ty e : TypeId) (i : TypeInfo) (z : Value) (k : IntKind) (bytes : Nat) (ht : P.underlying t = some (.slice e)) (hi : P.info? e = some i) (hz : i.zero = some z) (hsize : i.size = 1) (hby : i.bytes = bytes) (hzs : z.cells.size = 1)
    (ag : Addr) (ad : Addr) (m c : Nat) (zs : List Int) (hrow : Row k w (some ad) m c zs) (hm : 0 < m) (hn : m * bytes ≤ 140737488355328) (hb1 : 1 ≤ bytes) :
    ∃ g cap w', (Builtin.append_ #[t, t] ty #[.slice (some ag) 0 0, .slice (some ad) m c]).run P w = .ok (.slice (some ⟨g, 0, none⟩) m cap) w' ∧ w'.ownsRow w.heap.size e 1 (.slice (some ⟨g, 0, none⟩) m cap) m (zs.map (Value.int k)) ∧ w.grownBy w' none := by
  have hnews : ∀ j u, (zs.map (Value.int k))[j]? = some u → w.cell? (ad.add j) = some u := by
    intro j u hj
    have hjl : j < zs.length := by
      have := (List.getElem?_eq_some_iff.1 hj).1
      simpa using this
    have hl := hrow.len
    obtain ⟨b, off, e1, _, hc⟩ := hrow.cells (by omega)
    simp only [Option.some.injEq] at e1
    subst e1
    have hadd : (⟨b, off, none⟩ : Addr).add j = ⟨b, off + j, none⟩ := by unfold Addr.add; split <;> simp_all
    rw [hadd, hc j hjl]
    rw [List.getElem?_map, List.getElem?_eq_getElem hjl] at hj
    simp only [Option.map_some, Option.some.injEq] at hj
    rw [← hj]
    simp [List.getD, List.getElem?_eq_getElem hjl]
  have hlen : (zs.map (Value.int k)).length = m * 1 := by simp [hrow.len]
  have hmm : m ≤ 140737488355328 := by
    have : m * 1 ≤ m * bytes := Nat.mul_le_mul_left _ hb1
    omega
  have hq := run_append_grow (P := P) w t ty e i z ht hi hz ag 0 0 [] (by simp) (by simp) ad m c (zs.map (Value.int k)) (by rw [hsize]; exact hlen) hnews (by omega) (by omega) (growslice_fits (by omega) (by rw [hby]; simpa using hn))
  have hge := grownCap_ge w (0 + m) 0 e
  have hml : grownCap w (0 + m) 0 e ≤ maxLen := grownCap_le_maxLen w (0 + m) 0 e (by unfold maxLen; omega)
  rw [Nat.zero_add] at hq hge hml
  refine ⟨w.heap.size, grownCap w m 0 e, _, hq, ⟨by simp [hrow.len], .inr ⟨w.heap.size, grownCap w m 0 e, _, rfl, Nat.le_refl _, heap_alloc_new w.drew _, by omega, hml, ?_, ?_⟩⟩, ⟨rfl, rfl, rfl, by simp, fun k hk _ => Below.heap_alloc w.drew _ k hk⟩⟩
  · simp only [Array.size_append, List.size_toArray, size_zeroCells, hzs, List.length_map, hrow.len, List.length_nil]
    omega
  · simp only [Array.toList_append, List.nil_append]
    rw [List.take_append_of_le_length (by simp [hrow.len])]
    rw [List.take_of_length_le (by simp [hrow.len])]
/-- The rows that were copied till now. -/
def AllR (X : World) (L : List (IntKind × Option Addr × Nat × Nat × List Int)) (w : World) : Prop := KO X w ∧ ∀ r ∈ L, Row r.1 w r.2.1 r.2.2.1 r.2.2.2.1 r.2.2.2.2
theorem AllR.below {X w w' : World} {L : List (IntKind × Option Addr × Nat × Nat × List Int)} (h : AllR X L w) (hk : KO w w') : AllR X L w' := ⟨KO.on h.1 hk, fun r hr => (h.2 r hr).below hk⟩
theorem AllR.push {X w : World} {L : List (IntKind × Option Addr × Nat × Nat × List Int)} (h : AllR X L w) {k : IntKind} {a : Option Addr} {m c : Nat} {zs : List Int} (hr : Row k w a m c zs) : AllR X ((k, a, m, c, zs) :: L) w :=
  ⟨h.1, fun r hm => by
    rcases List.mem_cons.1 hm with rfl | hm
    · exact hr
    · exact h.2 r hm⟩
theorem step_copyJ {P : Program} {ops : Array Oper} {o : Oper} {a : Act} {K : Act → World → Prop} {Q : Exit → Act → World → Prop} {E : Prop} {X wl w : World} {L : List (IntKind × Option Addr × Nat × Nat × List Int)} (hJ : AllR X L wl) (hk : KO wl w) (hgd : o.guard = none) (s x : Operand) (t : TypeId)
    (ho : o.op = .call { callee := .builtin .append, args := #[s, x], argTypes := #[t, t] }) (e : TypeId) (i : TypeInfo) (z : Value) (bytes : Nat) (ht : P.underlying t = some (.slice e)) (hi : P.info? e = some i) (hz : i.zero = some z) (hsize : i.size = 1) (hby : i.bytes = bytes) (hzs : z.cells.size = 1)
    (ag : Addr) (hs : a.eval s = .slice (some ag) 0 0) (k : IntKind) (ao : Option Addr) (m c : Nat) (zs : List Int) (hx : a.eval x = .slice ao m c) (hrow : Row k X ao m c zs) (hn : m * bytes ≤ 140737488355328) (hb1 : 1 ≤ bytes)
    (h : ∀ a' c' w', AllR X ((k, a', m, c', zs) :: L) w' → KO w w' → K (a.put o.dst (.slice a' m c')) w') :
    if Region.wanted o (yielded ops a.tmps) = true then Oper.wp P o a w K Q else E := by
  have hw : Region.wanted o (yielded ops a.tmps) = true := by simp [Region.wanted, hgd]
  rw [if_pos hw]
  have hJw := hJ.below hk
  have hrw := hrow.below hJw.1
  by_cases hm : m = 0
  · subst hm
    have hr := run_append_zero (P := P) w t o.type e i ht hi ag ao c
    have hz0 : zs = [] := List.length_eq_zero_iff.1 hrow.len
    unfold Oper.wp execOp
    simp only [ho, resolve, invoke, builtin, Sem.run_bind, Sem.run_pure, Result.andThen_ok, List.map_toArray, List.map_cons, List.map_nil, hs, hx, hr]
    refine h (some ag) 0 w (hJw.push ?_) (KO.refl _)
    subst hz0
    exact ⟨rfl, Nat.le_refl _, Nat.zero_le _, fun h0 => by omega, fun h0 => by cases h0⟩
  · obtain ⟨b, off, rfl, _, _⟩ := hrow.cells (by omega)
    obtain ⟨g, cap, w', hr, h2, h3⟩ := run_append_fresh (P := P) w t o.type e i z k bytes ht hi hz hsize hby hzs ag _ m c zs hrw (by omega) hn hb1
    have hkw : KO w w' := (Below.refl w.heap.size w).grown h3 (Nat.le_refl _) (fun _ h => by cases h)
    obtain ⟨ao', cap', e1, hr2⟩ := row_of_owns h2
    simp only [Value.slice.injEq] at e1
    obtain ⟨rfl, _, rfl⟩ := e1
    unfold Oper.wp execOp
    simp only [ho, resolve, invoke, builtin, Sem.run_bind, Sem.run_pure, Result.andThen_ok, List.map_toArray, List.map_cons, List.map_nil, hs, hx, hr]
    exact h _ cap w' ((hJw.below hkw).push hr2) hkw
end Go.Proofs.YtfadjgaledddjaaGreatDoor
