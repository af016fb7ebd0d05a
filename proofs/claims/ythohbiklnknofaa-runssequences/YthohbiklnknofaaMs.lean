/- The stack's small methods: last, overflows, drop, way, overrideOf, Removed. -/
import Derived.Test.YthohbiklnknofaaSa
namespace Go.Proofs.Ythohbiklnknofaa
open Go.RowKit
set_option linter.unusedVariables false
set_option maxHeartbeats 1000000
set_option maxRecDepth 100000
theorem way_any (x : Int) (w : World) : Calls Try.prog 63 #[.int .i64 x] w fun e w' => e = .returned (.int .i64 (if Ex.odd x then 1 else 0)) ∧ w = w' := by
  by_cases h1 : x = 17
  · subst h1
    go_enter Try.func63, Try.ntmps63
    go_wp2
    go_ret
    exact ⟨rfl, rfl⟩
  · by_cases h2 : x = 18
    · subst h2
      go_enter Try.func63, Try.ntmps63
      go_wp2
      go_ret
      exact ⟨rfl, rfl⟩
    · by_cases h3 : x = 21
      · subst h3
        go_enter Try.func63, Try.ntmps63
        go_wp2
        go_ret
        exact ⟨rfl, rfl⟩
      · have ho : Ex.odd x = false := by unfold Ex.odd; simp [h1, h2, h3]
        rw [ho]
        clear ho
        go_enter Try.func63, Try.ntmps63
        go_wp2
        go_ret
        exact ⟨rfl, rfl⟩
theorem overrideOf_any (x : Int) (w : World) : Calls Try.prog 52 #[.int .i64 x] w fun e w' => e = .returned (.int .i64 (Ex.ovr x)) ∧ w = w' := by
  by_cases h1 : x = 16
  · subst h1
    go_enter Try.func52, Try.ntmps52
    go_wp2
    go_ret
    exact ⟨rfl, rfl⟩
  · by_cases h2 : x = 18
    · subst h2
      go_enter Try.func52, Try.ntmps52
      go_wp2
      go_ret
      exact ⟨rfl, rfl⟩
    · have ho : Ex.ovr x = 0 := by unfold Ex.ovr; simp [h1, h2]
      rw [ho]
      clear ho
      go_enter Try.func52, Try.ntmps52
      go_wp2
      go_ret
      exact ⟨rfl, rfl⟩
theorem rm_cases (x : Int) : (Ex.rm x = true ∧ (x = 17 ∨ x = 15 ∨ x = 18 ∨ x = 16 ∨ x = 19 ∨ x = 10)) ∨ (Ex.rm x = false ∧ ¬ x = 17 ∧ ¬ x = 15 ∧ ¬ x = 18 ∧ ¬ x = 16 ∧ ¬ x = 19 ∧ ¬ x = 10) := by
  cases h : Ex.rm x with
  | true =>
    left
    unfold Ex.rm at h
    simp only [Bool.or_eq_true, beq_iff_eq] at h
    exact ⟨rfl, by omega⟩
  | false =>
    right
    unfold Ex.rm at h
    simp only [Bool.or_eq_false_iff, beq_eq_false_iff_ne] at h
    exact ⟨rfl, by omega⟩
theorem removed_any (x : Int) (w : World) : Calls Try.prog 19 #[.int .i64 x] w fun e w' => e = .returned (.bool (Ex.rm x)) ∧ w = w' := by
  rcases rm_cases x with ⟨hs, h⟩ | ⟨hs, h1, h2, h3, h4, h5, h6⟩
  · rcases h with rfl | rfl | rfl | rfl | rfl | rfl
    all_goals
      clear hs
      go_enter Try.func19, Try.ntmps19
      go_wp2
      go_ret
      exact ⟨rfl, rfl⟩
  · rw [hs]
    clear hs
    go_enter Try.func19, Try.ntmps19
    go_wp2
    go_ret
    exact ⟨rfl, rfl⟩
theorem entInfo : (Try.prog.info? 54).map (fun i => (i.zero, i.size, i.bytes)) = some (some (.agg #[.int .i64 0, .int .i64 0, .bool false]), 3, 24) := by kernel_rfl
theorem entCells : Try.prog.cellsOf 54 = 3 := by kernel_rfl
theorem overflows_any {B : Nat} {w : World} {p : Nat} {S : Ex.St} {g cap : Nat} (h : SA B w p S g cap) :
    Calls Try.prog 55 #[.pointer (some ⟨p, 0, none⟩)] w fun e w' => e = .returned (.bool (!(S.oi == 0 && S.oe == 0))) ∧ w = w' := by
  have c1 := h.c1
  have c2 := h.c2
  obtain ⟨st, oi, oe, va⟩ := S
  simp only at c1 c2 ⊢
  clear h
  by_cases h1 : 0 < oi
  · have h1' : (0 : Int) < (oi : Int) := by omega
    have e1 : (oi == 0) = false := beq_false_of_ne (by omega)
    rw [e1]
    go_enter Try.func55, Try.ntmps55
    go_wp2
    go_ret
    exact ⟨rfl, rfl⟩
  · obtain rfl : oi = 0 := by omega
    by_cases h2 : 0 < oe
    · have h2' : (0 : Int) < (oe : Int) := by omega
      have e1 : (oe == 0) = false := beq_false_of_ne (by omega)
      rw [e1]
      go_enter Try.func55, Try.ntmps55
      go_wp2
      go_ret
      exact ⟨rfl, rfl⟩
    · obtain rfl : oe = 0 := by omega
      go_enter Try.func55, Try.ntmps55
      go_wp2
      go_ret
      exact ⟨rfl, rfl⟩
theorem last_any {B : Nat} {w : World} {p : Nat} {S : Ex.St} {g cap : Nat} (h : SA B w p S g cap) (hn : 0 < S.st.length) :
    Calls Try.prog 53 #[.pointer (some ⟨p, 0, none⟩)] w fun e w' => e = .returned (.agg #[.int .i64 (Ex.hd S.st).lv, .int .i64 (Ex.hd S.st).ov, .bool (Ex.hd S.st).is]) ∧ Below w.heap.size w w' := by
  obtain ⟨m, hm⟩ : ∃ m, S.st.length = m + 1 := ⟨S.st.length - 1, by omega⟩
  have c0 := h.c0
  rw [hm] at c0
  obtain ⟨t0, t1, t2⟩ := h.top hm
  obtain ⟨lt1, lt2, _⟩ := h.lt
  have hc := h.caps
  unfold maxLen at hc
  rw [hm] at hc
  have ei : ((m + 1 : Nat) : Int) - 1 = (m : Int) := by omega
  have hmm : (m : Int) < ((m + 1 : Nat) : Int) := by omega
  generalize (Ex.hd S.st).lv = lv at *
  generalize (Ex.hd S.st).ov = ov at *
  generalize (Ex.hd S.st).is = is at *
  have np : ¬ p = w.heap.size := by omega
  have ng : ¬ g = w.heap.size := by omega
  clear h hm hn
  go_enter Try.func53, Try.ntmps53
  go_wp2
  go_region
  all_goals (try go_wp2)
  all_goals
    refine bodyPost_ret (v := .agg #[.int .i64 lv, .int .i64 ov, .bool is]) (by simp [results, Try.results53, go_sem]) rfl ⟨rfl, ?_⟩
    exact Below.drew (Below.alloc (Below.refl _ _) (Nat.le_refl _) _)
theorem run_upto3 {P : Program} {t e : TypeId} {i : TypeInfo} (ht : P.underlying t = some (.slice e)) (hi : P.info? e = some i) (hc : P.cellsOf e = 3) (ao : Option Addr) (n cap j : Nat) (hj : j ≤ cap) (w : World) :
    (Instr.slice t (.slice ao n cap) none (some (.int .i64 (j : Int))) none).run P w = .ok (.slice ao j cap) w := by
  have e1 : (0 : Int) ≤ (j : Int) ∧ (j : Int) ≤ (cap : Int) := by omega
  simp [Instr.slice, run_underlying ht, Instr.sliceBounds, go_sem, e1, run_sizeOf w hi, hc]
theorem drop_any {B : Nat} {w : World} {p : Nat} {S : Ex.St} {g cap : Nat} (h : SA B w p S g cap) (hn : 0 < S.st.length) :
    Calls Try.prog 54 #[.pointer (some ⟨p, 0, none⟩)] w fun e w' => e = .returned (.tuple #[]) ∧ SA B w' p ⟨S.st.tail, S.oi, S.oe, S.va⟩ g cap ∧ Below B w w' := by
  obtain ⟨m, hm⟩ : ∃ m, S.st.length = m + 1 := ⟨S.st.length - 1, by omega⟩
  have c0 := h.c0
  rw [hm] at c0
  have f0 := h.fz 0
  have HS := hide (h.pop hm).drew
  have HB := hide (((Below.refl B w).setCell (p := ⟨p, 0, none⟩) h.ge (.slice (some ⟨g, 0, none⟩) m cap)).drew)
  have hc := h.caps
  unfold maxLen at hc
  rw [hm] at hc
  obtain ⟨ii, hii, hy0, hy1, hy2⟩ := info_parts entInfo
  have hsl := fun w' => run_upto3 Try.underlying55 hii entCells (some ⟨g, 0, none⟩) (m + 1) cap m (by omega) w'
  have ei : ((m + 1 : Nat) : Int) - 1 = (m : Int) := by omega
  clear h hm hn hy0 hy1 hy2
  go_enter Try.func54, Try.ntmps54
  go_wp2
  go_region
  all_goals (try go_wp2)
  all_goals go_end0
  all_goals exact ⟨rfl, HS.out, HB.out⟩
theorem field_lv (a b : Int) (c : Bool) (w : World) : (Instr.field 54 (.agg #[.int .i64 a, .int .i64 b, .bool c]) 0).run Try.prog w = .ok (.int .i64 a) w := by kernel_rfl
theorem field_is (a b : Int) (c : Bool) (w : World) : (Instr.field 54 (.agg #[.int .i64 a, .int .i64 b, .bool c]) 2).run Try.prog w = .ok (.bool c) w := by kernel_rfl
theorem nl_even {l : Int} {o : Bool} (h : 0 ≤ l) (he : (l + 1) % 2 = (if o then 1 else 0)) : Ex.nl l o = l + 1 := by
  unfold Ex.nl; rw [if_pos he]
theorem nl_odd {l : Int} {o : Bool} (h : 0 ≤ l) (he : ¬ (l + 1) % 2 = (if o then 1 else 0)) : Ex.nl l o = l + 1 + 1 := by
  unfold Ex.nl; rw [if_neg he]; omega
theorem next_any {B : Nat} {w : World} {p : Nat} {S : Ex.St} {g cap : Nat} (h : SA B w p S g cap) (hn : 0 < S.st.length) (h0 : 0 ≤ (Ex.hd S.st).lv) (h1 : (Ex.hd S.st).lv ≤ 125) (x : Int) :
    Calls Try.prog 51 #[.pointer (some ⟨p, 0, none⟩), .int .i64 x] w fun e w' => e = .returned (.tuple #[.int .i64 (Ex.nl (Ex.hd S.st).lv (Ex.odd x)), .bool (Ex.can S (Ex.odd x))]) ∧ Below w.heap.size w w' := by
  have HL := hide (last_any h hn)
  have hfl := field_lv
  have HW := hide (fun w' => way_any x w')
  have HO := hide (fun w' (hb : Below w.heap.size w w') => overflows_any (h.below hb))
  have HC := hide (show Ex.can S (Ex.odd x) = (decide (Ex.nl (Ex.hd S.st).lv (Ex.odd x) ≤ 125) && (S.oi == 0 && S.oe == 0)) from rfl)
  generalize Ex.can S (Ex.odd x) = cc at *
  generalize (S.oi == 0 && S.oe == 0) = q at *
  generalize (Ex.hd S.st).lv = l at *
  generalize (Ex.hd S.st).ov = ov at *
  generalize (Ex.hd S.st).is = is at *
  generalize Ex.odd x = o at *
  have hnl := Ex.nl_gt l o
  by_cases he : (l + 1) % 2 = (if o then 1 else 0)
  · have e2 := nl_even h0 he
    rw [e2] at HC hnl ⊢
    have e1 : ((l + 1) % 2 != (if o then (1 : Int) else 0)) = false := by simp [he]
    generalize (if o then (1 : Int) else 0) = wy at *
    clear h hn e2
    by_cases h3 : l + 1 ≤ 125
    · rw [decide_eq_true h3, Bool.true_and] at HC
      go_enter Try.func51, Try.ntmps51
      go_wp2_with (first
        | (go_at_call 53; refine HL.out.mono ?_; rintro e w1 ⟨rfl, hb1⟩)
        | (go_at_call 63; refine (HW.out _).mono ?_; rintro e w2 ⟨rfl, rfl⟩)
        | (go_at_call 55; refine (HO.out _ hb1).mono ?_; rintro e w2 ⟨rfl, rfl⟩))
      go_ret2
      exact ⟨by rw [HC.out]; simp, hb1⟩
    · rw [decide_eq_false h3, Bool.false_and] at HC
      go_enter Try.func51, Try.ntmps51
      go_wp2_with (first
        | (go_at_call 53; refine HL.out.mono ?_; rintro e w1 ⟨rfl, hb1⟩)
        | (go_at_call 63; refine (HW.out _).mono ?_; rintro e w2 ⟨rfl, rfl⟩)
        | (go_at_call 55; refine (HO.out _ hb1).mono ?_; rintro e w2 ⟨rfl, rfl⟩))
      go_ret2
      exact ⟨by rw [HC.out]; rfl, hb1⟩
  · have e2 := nl_odd h0 he
    rw [e2] at HC hnl ⊢
    have e1 : ((l + 1) % 2 != (if o then (1 : Int) else 0)) = true := by simp [he]
    generalize (if o then (1 : Int) else 0) = wy at *
    clear h hn e2
    by_cases h3 : l + 1 + 1 ≤ 125
    · rw [decide_eq_true h3, Bool.true_and] at HC
      go_enter Try.func51, Try.ntmps51
      go_wp2_with (first
        | (go_at_call 53; refine HL.out.mono ?_; rintro e w1 ⟨rfl, hb1⟩)
        | (go_at_call 63; refine (HW.out _).mono ?_; rintro e w2 ⟨rfl, rfl⟩)
        | (go_at_call 55; refine (HO.out _ hb1).mono ?_; rintro e w2 ⟨rfl, rfl⟩))
      go_ret2
      exact ⟨by rw [HC.out]; simp, hb1⟩
    · rw [decide_eq_false h3, Bool.false_and] at HC
      go_enter Try.func51, Try.ntmps51
      go_wp2_with (first
        | (go_at_call 53; refine HL.out.mono ?_; rintro e w1 ⟨rfl, hb1⟩)
        | (go_at_call 63; refine (HW.out _).mono ?_; rintro e w2 ⟨rfl, rfl⟩)
        | (go_at_call 55; refine (HO.out _ hb1).mono ?_; rintro e w2 ⟨rfl, rfl⟩))
      go_ret2
      exact ⟨by rw [HC.out]; rfl, hb1⟩
end Go.Proofs.Ythohbiklnknofaa
