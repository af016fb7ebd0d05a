/- grow: all that a sequence has. -/
import Derived.Test.YthohbiklnknofaaGm
namespace Go.Proofs.Ythohbiklnknofaa
open Go.RowKit Go.Maps
set_option linter.unusedVariables false
set_option maxHeartbeats 1000000
set_option maxRecDepth 100000
section
variable {w0 : World} {p : Nat} {b : Int} {lv mt : List Int} {rs : List (List Nat)} {bl bm n : Nat} {ao : Option Addr} {N cap mp : Nat}
theorem PG.rowle (h : PG w0 p b lv mt rs bl bm n ao N cap mp) (j : Nat) : (Rn.rn rs j).length ≤ 2000 := by
  by_cases hj : j < N
  · obtain ⟨g, gj, cj, m, _, _, e1, hm, _⟩ := h.run hj
    omega
  · have hl := h.ll.len
    have : Rn.rn rs j = [] := by simp [Rn.rn, List.getD, List.getElem?_eq_none (show rs.length ≤ j by omega)]
    rw [this]; simp
theorem fo_lt {k j : Nat} (h : Rn.fo mt rs k = some j) : j < rs.length := by
  unfold Rn.fo at h
  split at h
  · exact (Rn.fi_some h).1
  · cases h
theorem more_any (h0 : PG w0 p b lv mt rs bl bm n ao N cap mp) (hmr : ∀ i, i < n → -1 ≤ mt.getD i 0 ∧ mt.getD i 0 ≤ (n : Int)) : ∀ (count : Nat), 0 < count → count ≤ 2000 → ∀ (k : Nat) (W : World) (v : Value) (ps : List Nat) (l : Int), k < N → GS w0 W p v ps l → ps.length + count * 2000 ≤ 9000000 →
    Calls Try.prog 57 #[.int .i64 (k : Int), .int .i64 (count : Int), .pointer (some ⟨w0.heap.size + 1, 0, none⟩), .pointer (some ⟨w0.heap.size, 0, none⟩), .pointer (some ⟨w0.heap.size + 2, 0, none⟩), .pointer (some ⟨w0.heap.size + 3, 0, none⟩)] W fun e W' => e = .returned (.int .i64 (Rn.oi (Rn.aft (Rn.fo mt rs) count k))) ∧ ∃ v', GS w0 W' p v' (ps ++ Rn.plc rs (Rn.chn (Rn.fo mt rs) count k)) (Rn.ltc (Rn.fo mt rs) count k : Int) := by
  intro count
  induction count using Nat.strongRecOn with
  | ind count ih =>
    intro hc0 hc1 k W v ps l hk h hlen
    by_cases h1 : count = 1
    · subst h1
      have e1 : Rn.chn (Rn.fo mt rs) 1 k = [k] := by rw [Rn.chn_succ]; cases Rn.fo mt rs k <;> rfl
      have e2 : Rn.aft (Rn.fo mt rs) 1 k = Rn.fo mt rs k := by rw [Rn.aft_succ]; cases Rn.fo mt rs k <;> rfl
      have e3 : Rn.ltc (Rn.fo mt rs) 1 k = k := by unfold Rn.ltc; rw [e1]; rfl
      rw [e1, e2, e3, Rn.plc_one]
      exact more_one h0 hmr h hk (by omega)
    · obtain ⟨c1, c2, hcc, hc3, hc4, hq⟩ : ∃ c1 c2, count = c1 + c2 ∧ 0 < c1 ∧ 0 < c2 ∧ (count : Int).tdiv 2 = (c1 : Int) := ⟨count / 2, count - count / 2, by omega, by omega, by omega, by rw [Int.tdiv_eq_ediv_of_nonneg (by omega)]; omega⟩
      have hN := h0.ll.len
      have HA := hide (ih c1 (by omega) hc3 (by omega) k W v ps l hk h (by omega))
      have hsub : (count : Int) - (c1 : Int) = (c2 : Int) := by omega
      have hpl := Rn.plc_len (h0.rowle) (Rn.chn (Rn.fo mt rs) c1 k)
      have hcl := Rn.chn_len (Rn.fo mt rs) c1 k
      have hpl2 : (Rn.plc rs (Rn.chn (Rn.fo mt rs) c1 k)).length ≤ c1 * 2000 := Nat.le_trans hpl (Nat.mul_le_mul_right _ hcl)
      have HQ := hide hq
      have hne1 : ((count : Int) == 1) = false := beq_false_of_ne (by omega)
      have hne2 : ¬ (count : Int) = 1 := by omega
      obtain ⟨q0, q1, q2, q3⟩ := h.cells
      unfold fv at q3
      cases hf : Rn.aft (Rn.fo mt rs) c1 k with
      | none =>
        obtain ⟨e1, e2, e3⟩ := Rn.ltc_none (b := c2) hf
        rw [hcc, e1, e2, e3, ← hcc]
        rw [hf] at HA
        generalize Rn.plc rs (Rn.chn (Rn.fo mt rs) c1 k) = xs at *
        generalize Rn.ltc (Rn.fo mt rs) c1 k = lt at *
        clear ih h hpl hcl hcc e1 e2 e3 hlen hpl2 HQ
        go_enter Try.func57, Try.ntmps57
        go_wp2_with fail
        refine HA.out.mono ?_
        rintro e W1 ⟨rfl, v1, hg1⟩
        go_wp2
        go_ret
        exact ⟨rfl, v1, hg1⟩
      | some j =>
        obtain ⟨e1, e2, e3⟩ := Rn.ltc_some (b := c2) hf hc4
        rw [hcc, e1, e2, e3, ← hcc, Rn.plc_append, ← List.append_assoc]
        rw [hf] at HA
        have hj : j < N := by rw [← hN]; exact Rn.aft_lt (f := Rn.fo mt rs) (N := rs.length) (fun _ _ hq => fo_lt hq) c1 k j (by omega) hf
        have HB := hide (fun W1 v1 l1 (hg1 : GS w0 W1 p v1 (ps ++ Rn.plc rs (Rn.chn (Rn.fo mt rs) c1 k)) l1) => ih c2 (by omega) hc4 (by omega) j W1 v1 _ l1 hj hg1 (by rw [List.length_append]; omega))
        generalize Rn.plc rs (Rn.chn (Rn.fo mt rs) c1 k) = xs at *
        generalize Rn.plc rs (Rn.chn (Rn.fo mt rs) c2 j) = ys at *
        generalize Rn.ltc (Rn.fo mt rs) c1 k = lt at *
        generalize Rn.ltc (Rn.fo mt rs) c2 j = lt2 at *
        generalize Rn.oi (Rn.aft (Rn.fo mt rs) c2 j) = z at *
        have hjn : ((j : Int) == -1) = false := beq_false_of_ne (by omega)
        have hjn2 : ¬ (j : Int) = -1 := by omega
        clear ih h hpl hcl hcc e1 e2 e3 hlen hpl2 HQ
        go_enter Try.func57, Try.ntmps57
        go_wp2_with fail
        refine HA.out.mono ?_
        rintro e W1 ⟨rfl, v1, hg1⟩
        have HG1 := hide (HB.out W1 v1 _ hg1)
        obtain ⟨p0, p1, p2, p3⟩ := hg1.cells
        unfold fv at p3
        clear hg1 HA HB
        go_wp2_with fail
        refine HG1.out.mono ?_
        rintro e W2 ⟨rfl, v2, hg2⟩
        go_wp2
        go_ret
        exact ⟨rfl, v2, hg2⟩
end
end Go.Proofs.Ythohbiklnknofaa
