/- The contract of grow: a balanced tree of a list. -/
import Derived.Test.YteiljaecaahonaaOver
import Derived.Test.YteiljaecaahonaaSlices
import Derived.Test.YteiljaecaahonaaCls
namespace Go.Proofs.Yteiljaecaahonaa
open Go.RowKit
set_option linter.unusedVariables false
set_option maxHeartbeats 4000000
set_option maxRecDepth 100000
/-- How high a tree of so many numbers is, as low as there is one. -/
def hg : Nat → Nat
  | 0 => 0
  | n + 1 => hg ((n + 1) / 2) + 1
decreasing_by omega
theorem hg_zero : hg 0 = 0 := by unfold hg; rfl
theorem hg_pos {n : Nat} (h : 0 < n) : hg n = hg (n / 2) + 1 := by
  cases n with
  | zero => omega
  | succ n => rw [hg]
theorem hg_step (m : Nat) : hg m ≤ hg (m + 1) ∧ hg (m + 1) ≤ hg m + 1 := by
  induction m using Nat.strongRecOn with
  | _ m ih =>
    rcases Nat.eq_zero_or_pos m with h0 | h0
    · subst h0
      have h1 : hg 1 = 1 := by rw [hg_pos (by omega)]; show hg 0 + 1 = 1; rw [hg_zero]
      have h2 := hg_zero
      show hg 0 ≤ hg 1 ∧ hg 1 ≤ hg 0 + 1
      omega
    · rw [hg_pos h0, hg_pos (n := m + 1) (by omega)]
      have := ih (m / 2) (by omega)
      rcases (by omega : (m + 1) / 2 = m / 2 ∨ (m + 1) / 2 = m / 2 + 1) with h | h
      · rw [h]; omega
      · rw [h]; omega
theorem info83 : (Try.prog.info? 97).map (·.size) = some 6 := by kernel_rfl
theorem info21 : (Try.prog.info? 21).map (fun i => (i.zero, i.size, i.bytes)) = some (some (.int .i32 0), 1, 4) := by kernel_rfl
theorem cells21 : Try.prog.cellsOf 21 = 1 := by kernel_rfl
theorem grow_any (k : Nat) : ∀ (ao : Option Addr) (n cap : Nat) (zs : List Int) (w : World), n ≤ k → Row .i32 w ao n cap zs → (∀ x ∈ zs, (Lit.int .i32 x).wf = true) → n ≤ 2305843009213693952 →
    Calls Try.prog 35 #[.slice ao n cap] w fun e w' => ∃ t : Tr, e = .returned (.pointer t.at) ∧ Lies w' t ∧ t.list = zs ∧ t.bal ∧ t.high = hg n ∧ Below w.heap.size w w' := by
  induction k with
  | zero =>
    intro ao n cap zs w hk h hwf hmax
    have hz : zs = [] := List.length_eq_zero_iff.1 (by have := h.len; omega)
    have hn : n = 0 := by omega
    subst hn hz
    clear h hwf hmax hk
    go_enter Try.func35, Try.ntmps35
    go_wp2
    go_ret
    exact ⟨.nil, rfl, trivial, rfl, trivial, hg_zero.symm, Below.refl _ _⟩
  | succ k ih =>
    intro ao n cap zs w hk h hwf hmax
    rcases Nat.eq_zero_or_pos n with hn | hn
    · have hz : zs = [] := List.length_eq_zero_iff.1 (by have := h.len; omega)
      subst hn hz
      clear h hwf hmax hk
      go_enter Try.func35, Try.ntmps35
      go_wp2
      go_ret
      exact ⟨.nil, rfl, trivial, rfl, trivial, hg_zero.symm, Below.refl _ _⟩
    · obtain ⟨m, hm⟩ : ∃ m, n / 2 = m := ⟨_, rfl⟩
      have hlen := h.len
      obtain ⟨b, off, rfl, hbl, hcl⟩ := h.cells hn
      have hc := hcl m (by omega)
      obtain ⟨x, hx⟩ : ∃ x, zs.getD m 0 = x := ⟨_, rfl⟩
      rw [hx] at hc
      have hxw : (Lit.int .i32 x).wf = true := hwf x (by rw [← hx]; simp [List.getD, List.getElem?_eq_getElem (show m < zs.length by omega)])
      have hmI : (m : Int) < (n : Int) := by omega
      have hwm : wrap64 (m : Int) = (m : Int) := w64_small (by omega) (by omega)
      have hn0 : ¬ ((n : Int) = 0) := by omega
      have HC := hide (fun w' => class_any x w' hxw)
      have hle := h.le
      have hcap := h.max
      unfold maxLen at hcap
      obtain ⟨i21, hi21, hz0, hz1, hz2⟩ := info_parts info21
      have hs1 := fun w' => run_upto Try.underlying22 hi21 cells21 (some ⟨b, off, none⟩) n cap m (by omega) w'
      have hs2 := fun w' => run_from Try.underlying22 hi21 cells21 (some ⟨b, off, none⟩) n cap (m + 1) (by omega) w'
      have hm1 : IntKind.i64.wrap ((m : Int) + 1) = ((m + 1 : Nat) : Int) := by rw [wrap_small (by omega) (by omega)]; omega
      have HR1 := hide (fun w' (hk : KO w w') => ih (some ⟨b, off, none⟩) m cap (zs.take m) w' (by omega) ((h.below hk).take (by omega)) (fun y hy => hwf y (List.mem_of_mem_take hy)) (by omega))
      have HR2 := hide (fun w' (hk : KO w w') => ih (tl (some ⟨b, off, none⟩) cap (m + 1)) (n - (m + 1)) (cap - (m + 1)) (zs.drop (m + 1)) w' (by omega) ((h.below hk).drop (by omega)) (fun y hy => hwf y (List.mem_of_mem_drop hy)) (by omega))
      obtain ⟨ao2, hao2⟩ : ∃ ao2, tl (some ⟨b, off, none⟩) cap (m + 1) = ao2 := ⟨_, rfl⟩
      obtain ⟨n2, hn2⟩ : ∃ n2, n - (m + 1) = n2 := ⟨_, rfl⟩
      obtain ⟨cap2, hcap2⟩ : ∃ cap2, cap - (m + 1) = cap2 := ⟨_, rfl⟩
      obtain ⟨m1, hm1d⟩ : ∃ m1, m + 1 = m1 := ⟨_, rfl⟩
      rw [hao2, hn2, hcap2, hm1d] at hs2 HR2
      rw [hm1d] at hm1
      have HN2 := hide hn2
      have HM1 := hide hm1d
      have hzs : zs.take m ++ x :: zs.drop m1 = zs := by
        rw [← hm1d, ← hx]
        have : zs.drop m = zs.getD m 0 :: zs.drop (m + 1) := by rw [List.drop_eq_getElem_cons (show m < zs.length by omega)]; simp [List.getD, List.getElem?_eq_getElem (show m < zs.length by omega)]
        rw [← this, List.take_append_drop]
      have HZS := hide hzs
      clear hle hcap hi21 hz0 hz1 hz2 hao2 hn2 hcap2 hm1d hzs
      have hq : Int.tdiv (n : Int) 2 = (m : Int) := by rw [Int.tdiv_eq_ediv_of_nonneg (by omega)]; omega
      have H := hide h
      have HM := hide hm
      have HN := hide hn
      have HL := hide hlen
      have HX := hide hx
      have HK := hide hk
      have HMAX := hide hmax
      clear h hm hn hlen hx hk hmax hcl hxw
      go_enter Try.func35, Try.ntmps35
      go_wp2_with fail
      refine (HC.out _).mono ?_
      rintro e w2 ⟨rfl, hb2⟩
      have c0 := (hb2.cell (p := ⟨w.heap.size, 0, none⟩) (by simp)).trans (by rw [World.cell?_alloc_mark]; rfl : _ = some (Value.pointer none))
      have c1 := (hb2.cell (p := ⟨w.heap.size, 1, none⟩) (by simp)).trans (by rw [World.cell?_alloc_mark]; rfl : _ = some (Value.pointer none))
      have c2 := (hb2.cell (p := ⟨w.heap.size, 2, none⟩) (by simp)).trans (by rw [World.cell?_alloc_mark]; rfl : _ = some (Value.int .i32 x))
      have c5 := (hb2.cell (p := ⟨w.heap.size, 5, none⟩) (by simp)).trans (by rw [World.cell?_alloc_mark]; rfl : _ = some (Value.int .i64 0))
      have f5 : w2.frozen? ⟨w.heap.size, 5, none⟩ = false := (hb2.frozen (p := ⟨w.heap.size, 5, none⟩) (by simp)).trans (by simp)
      have hk2 : KO w w2 := Below.trans ((Below.refl _ _).alloc (Nat.le_refl _) _) (hb2.mono (by simp))
      simp only [hwm]
      by_cases hs : Ucd.cls x = 11
      · have hsep : sep x = 1 := by unfold sep; rw [if_pos hs]
        have hk3 : KO w (w2.setCell ⟨w.heap.size, 5, none⟩ (.int .i64 1)) := Below.setCell hk2 (by exact Nat.le_refl _) _
        have HT : Hid (Top (w2.setCell ⟨w.heap.size, 5, none⟩ (.int .i64 1)) w.heap.size x) := by
          refine ⟨.nil, .nil, ?_, ?_, ?_, ?_, trivial, trivial, (by simp)⟩
          · rw [World.cell?_setCell_other _ _ _ _ (by simp)]; exact c0
          · rw [World.cell?_setCell_other _ _ _ _ (by simp)]; exact c1
          · rw [World.cell?_setCell_other _ _ _ _ (by simp)]; exact c2
          · rw [hsep]; exact World.cell?_setCell_same' _ _ _ (by rw [c5]; rfl)
        clear c0 c1 c2 hb2 hsep
        go_wp2_with fail
        clear c5 f5
        revert hk3 HT
        generalize hw3 : w2.setCell ⟨w.heap.size, 5, none⟩ (.int .i64 1) = w3
        intro hk3 HT
        clear hw3 hk2
        refine wp_region_noPanic ?_
        have hB : KO w3 w3 := KO.refl _
        go_region_held (fun w' => KO w3 w') (first | assumption | exact KO.drew hB)
          (first
            | (go_at_call_of 35 ao2; refine (HR2.out _ (KO.on hk3 (by assumption))).mono ?_; rintro e wB ⟨t2, rfl, hl2, hi2, hbal2, hh2, hb2⟩; have hkB : KO w3 wB := KO.on hkA hb2; have HL1B := hide (HL1.out.below hb2); have HL2 := hide hl2; have HI2 := hide hi2; have HH2 := hide hh2; have HB2 := hide hbal2; clear hl2 hi2 hh2 hb2 hbal2)
            | (go_at_call 35; refine (HR1.out _ (KO.on hk3 (by assumption))).mono ?_; rintro e wA ⟨t1, rfl, hl1, hi1, hbal1, hh1, hb1⟩; have hkA : KO w3 wA := KO.on (by assumption) hb1; have HL1 := hide hl1; have HI1 := hide hi1; have HH1 := hide hh1; have HB1 := hide hbal1; clear hl1 hi1 hh1 hb1 hbal1)
            | (go_at_call 54; refine (over_any false w.heap.size x t1 t2 _ (HT.out.below (by assumption)) HL1B.out HL2.out (by unfold Tr.size; rw [HI1.out, HI2.out]; have := HL.out; have := HMAX.out; simp; omega)).mono ?_; rintro e wC ⟨b3, rfl, hl3, hb3⟩; have hkC : KO w3 wC := KO.on hkB hb3))
        refine NoPanic.normal ?_
        go_wp2
        go_ret
        have hl0 := HL.out
        have hm0 := HM.out
        have hn0' := HN.out
        have hsz := HM1.out
        have hn2' := HN2.out
        refine ⟨Tr.mk false b3 t1 x t2, by rw [Tr.at_mk]; rfl, hl3, by rw [Tr.mk_list, HI1.out, HI2.out]; exact HZS.out, ?_, ?_, KO.on hk3 hkC⟩
        · rw [Tr.mk_bal, HH1.out, HH2.out]
          have h1 := hg_step n2
          refine ⟨HB1.out, HB2.out, ?_⟩
          rcases (by omega : m = n2 ∨ m = n2 + 1) with h | h <;> rw [h] <;> omega
        · rw [Tr.mk_high, HH1.out, HH2.out, hg_pos hn0', hm0]
          have h1 := hg_step n2
          have e : Nat.max (hg m) (hg n2) = max (hg m) (hg n2) := rfl
          rw [e]
          rcases (by omega : m = n2 ∨ m = n2 + 1) with h | h <;> rw [h] <;> omega
      · have hsep : sep x = 0 := by unfold sep; rw [if_neg hs]
        have HT : Hid (Top w2 w.heap.size x) := ⟨.nil, .nil, c0, c1, c2, by rw [hsep]; exact c5, trivial, trivial, (by simp)⟩
        have hk3 := hk2
        clear c0 c1 c2 hb2 hsep hk2 c5 f5
        obtain ⟨w3, hw3⟩ : ∃ w3, w2 = w3 := ⟨_, rfl⟩
        rw [hw3] at HT hk3 ⊢
        clear hw3
        go_wp2_with fail
        refine wp_region_noPanic ?_
        have hB : KO w3 w3 := KO.refl _
        go_region_held (fun w' => KO w3 w') (first | assumption | exact KO.drew hB)
          (first
            | (go_at_call_of 35 ao2; refine (HR2.out _ (KO.on hk3 (by assumption))).mono ?_; rintro e wB ⟨t2, rfl, hl2, hi2, hbal2, hh2, hb2⟩; have hkB : KO w3 wB := KO.on hkA hb2; have HL1B := hide (HL1.out.below hb2); have HL2 := hide hl2; have HI2 := hide hi2; have HH2 := hide hh2; have HB2 := hide hbal2; clear hl2 hi2 hh2 hb2 hbal2)
            | (go_at_call 35; refine (HR1.out _ (KO.on hk3 (by assumption))).mono ?_; rintro e wA ⟨t1, rfl, hl1, hi1, hbal1, hh1, hb1⟩; have hkA : KO w3 wA := KO.on (by assumption) hb1; have HL1 := hide hl1; have HI1 := hide hi1; have HH1 := hide hh1; have HB1 := hide hbal1; clear hl1 hi1 hh1 hb1 hbal1)
            | (go_at_call 54; refine (over_any false w.heap.size x t1 t2 _ (HT.out.below (by assumption)) HL1B.out HL2.out (by unfold Tr.size; rw [HI1.out, HI2.out]; have := HL.out; have := HMAX.out; simp; omega)).mono ?_; rintro e wC ⟨b3, rfl, hl3, hb3⟩; have hkC : KO w3 wC := KO.on hkB hb3))
        refine NoPanic.normal ?_
        go_wp2
        go_ret
        have hl0 := HL.out
        have hm0 := HM.out
        have hn0' := HN.out
        have hsz := HM1.out
        have hn2' := HN2.out
        refine ⟨Tr.mk false b3 t1 x t2, by rw [Tr.at_mk]; rfl, hl3, by rw [Tr.mk_list, HI1.out, HI2.out]; exact HZS.out, ?_, ?_, KO.on hk3 hkC⟩
        · rw [Tr.mk_bal, HH1.out, HH2.out]
          have h1 := hg_step n2
          refine ⟨HB1.out, HB2.out, ?_⟩
          rcases (by omega : m = n2 ∨ m = n2 + 1) with h | h <;> rw [h] <;> omega
        · rw [Tr.mk_high, HH1.out, HH2.out, hg_pos hn0', hm0]
          have h1 := hg_step n2
          have e : Nat.max (hg m) (hg n2) = max (hg m) (hg n2) := rfl
          rw [e]
          rcases (by omega : m = n2 ∨ m = n2 + 1) with h | h <;> rw [h] <;> omega
end Go.Proofs.Yteiljaecaahonaa
