/- closed, around: the law's own helpers. -/
import Derived.Test.YthoganddhoklpaaExh
import Derived.Test.YthoganddhoklpaaDeep
namespace Go.Proofs.Ythoganddhoklpaa
open Go.RowKit
set_option linter.unusedVariables false
set_option maxHeartbeats 1000000
set_option maxRecDepth 100000
theorem filter_snoc {c : List Int} {k : Nat} (h : k < c.length) : (c.take (k + 1)).filter Ex.ck = (c.take k).filter Ex.ck ++ (if Ex.ck (c.getD k 0) then [c.getD k 0] else []) := by
  rw [take_snoc c k h, List.filter_append]
  congr 1
  rw [List.filter_cons, List.filter_nil]
theorem closed_any (ao : Option Addr) (n cap : Nat) (c : List Int) (w : World) (h : Row .i64 w ao n cap c) (hn : n ≤ 500) :
    Calls Try.prog 17 #[.slice ao n cap] w fun e w' => ∃ a1 m c1, e = .returned (.slice a1 m c1) ∧ m ≤ 500 ∧ Row .i64 w' a1 m c1 (c.filter Ex.ck) ∧ Below w.heap.size w w' := by
  obtain ⟨ii, hii, hy0, hy1, hy2⟩ := info_parts infoInt
  have HII : Hid (Try.prog.info? 3 = some ii) := hii
  have HY0 := hide hy0
  have HY1 := hide hy1
  have HY2 := hide hy2
  have H := hide h
  have HL := hide h.len
  clear h hii hy0 hy1 hy2
  go_enter Try.func17, Try.ntmps17
  go_wp2
  go_loopw [3, 8] (fun s3 s8 wr => ∃ k m : Nat, k ≤ n ∧ m ≤ k ∧ s8 = .int .i64 (k : Int) ∧ Hid (RJ w ((c.take k).filter Ex.ck) m s3 wr)) (fun _ s8 _ => n - (intOf s8).toNat)
  case atStart => exact ⟨0, 0, Nat.zero_le _, Nat.le_refl _, rfl, ⟨World.ownsRow_nil _ _ _ _, Below.refl _ _⟩⟩
  case round =>
    obtain ⟨k, m, hk, hmk, rfl, hm⟩ := hrel
    by_cases hlt : k < n
    · have hkl : k < c.length := by rw [HL.out]; exact hlt
      obtain ⟨b, off, rfl, hbl, hc⟩ := H.out.cells (by omega)
      have ck : wr.cell? ⟨b, off + k, none⟩ = some (.int .i64 (c.getD k 0)) := (hm.out.bel.cell (by exact hbl)).trans (hc k hkl)
      have hin : (k : Int) < (n : Int) := by omega
      have HF := hide (filter_snoc hkl)
      have HCI := hide (Ex.ck_iff (x := c.getD k 0))
      generalize c.getD k 0 = x at *
      clear hc hkl
      cases hx : Ex.ck x with
      | true =>
        have h3 := HCI.out.1 hx
        rw [if_pos hx] at HF
        have q1 : 1 ≤ x := h3.1
        have q2 : x ≤ 19 := h3.2.1
        have q3 : (x != 11) = true := bne_iff_ne.2 h3.2.2
        have HOW := hide hm.out.own
        have hsz := hm.out.bel.size
        clear hx h3 HCI
        go_wp2_with (at_builtin; refine wpList_append_row _ rfl (.tmp 22) (.tmp 24) 22 rfl w.heap.size 3 ii (.int .i64 0) 8 Try.underlying22 HII.out HY0.out HY1.out HY2.out rfl _ m _ rfl (HOW.out.alloc _) .i64 _ 1 1 [x] rfl (row_one _ wr.heap.size rfl x) (by omega) (by omega) (by simp; omega) ?_; intro v2 w2 hown2 hb2)
        have HM := hide (hm.out.snoc (x := x) hb2 hown2)
        rw [← HF.out] at HM
        clear hown2 hb2 HOW hm hsz
        go_wp2
        go_roundw
        case rel => exact ⟨k + 1, m + 1, by omega, by omega, by go_num, HM⟩
        case measure => simp [intOf]; omega
      | false =>
        rw [if_neg (by rw [hx]; decide), List.append_nil] at HF
        have h3 : ¬ (1 ≤ x ∧ x ≤ 19 ∧ ¬ x = 11) := fun h => by have := HCI.out.2 h; rw [hx] at this; cases this
        rw [← HF.out] at hm
        obtain ⟨a4, c4, rfl, _⟩ := owns_form hm.out.own
        clear hx HCI
        by_cases q1 : 1 ≤ x
        · by_cases q2 : x ≤ 19
          · have q3 : x = 11 := by omega
            subst q3
            go_wp2
            go_roundw
            case rel => exact ⟨k + 1, m, by omega, by omega, by go_num, hm⟩
            case measure => simp [intOf]; omega
          · go_wp2
            go_roundw
            case rel => exact ⟨k + 1, m, by omega, by omega, by go_num, hm⟩
            case measure => simp [intOf]; omega
        · go_wp2
          go_roundw
          case rel => exact ⟨k + 1, m, by omega, by omega, by go_num, hm⟩
          case measure => simp [intOf]; omega
    · obtain rfl : k = n := by omega
      have hne : ¬ ((k : Int) < (k : Int)) := by omega
      have ho := hm.out.own
      rw [List.take_of_length_le (by rw [HL.out]; exact Nat.le_refl _)] at ho
      obtain ⟨a1, c1, rfl, hr⟩ := row_of_owns ho
      have HR := hide hr
      have HB := hide hm.out.bel
      clear hm ho hr
      go_wp2
      go_ret
      exact ⟨a1, m, c1, rfl, by omega, HR.out, HB.out⟩
theorem around_any (a0 : Option Addr) (n0 c0 : Nat) (la : List Int) (a1 : Option Addr) (n1 c1 : Nat) (li : List Int) (a2 : Option Addr) (n2 c2 : Nat) (lb : List Int) (w : World)
    (h0 : Row .i64 w a0 n0 c0 la) (h1 : Row .i64 w a1 n1 c1 li) (h2 : Row .i64 w a2 n2 c2 lb) (hn0 : n0 ≤ 500) (hn1 : n1 ≤ 500) (hn2 : n2 ≤ 500) :
    Calls Try.prog 16 #[.slice a0 n0 c0, .slice a1 n1 c1, .slice a2 n2 c2] w fun e w' => ∃ ar cr, e = .returned (.tuple #[.slice ar (n0 + 1 + n1 + 1 + n2) cr, .int .i64 ((n0 + 1 : Nat) : Int)]) ∧ Row .i64 w' ar (n0 + 1 + n1 + 1 + n2) cr (Ex.ar la li lb) ∧ Below w.heap.size w w' := by
  obtain ⟨ii, hii, hy0, hy1, hy2⟩ := info_parts infoInt
  have HII : Hid (Try.prog.info? 3 = some ii) := hii
  have HY0 := hide hy0
  have HY1 := hide hy1
  have HY2 := hide hy2
  have H0 := hide h0
  have H1 := hide h1
  have H2 := hide h2
  have hka : KO w (w.alloc (.cells #[] 3)) := KO.alloc (KO.refl _) _
  have HKA := hide hka
  clear h0 h1 h2 hii hy0 hy1 hy2 hka
  go_enter Try.func16, Try.ntmps16
  go_wp2_with (first
    | (at_builtin; refine wpList_append_row _ rfl (.tmp 10) (.tmp 11) 22 rfl w.heap.size 3 ii (.int .i64 0) 8 Try.underlying22 HII.out HY0.out HY1.out HY2.out rfl _ 0 [] rfl (owns_empty w 3 w.heap.size rfl) .i64 a0 n0 c0 la rfl (H0.out.below HKA.out) (by omega) (by omega) (by simp) ?_; intro v3 w3 ho3 hb3; rw [Nat.zero_add, List.nil_append] at ho3; have k3 : KO w w3 := Below.trans HKA.out hb3; have z3 : w.heap.size ≤ w3.heap.size := Below.size k3)
    | (at_builtin; refine wpList_append_row _ rfl (.tmp 12) (.tmp 13) 22 rfl w.heap.size 3 ii (.int .i64 0) 8 Try.underlying22 HII.out HY0.out HY1.out HY2.out rfl _ n0 _ rfl (ho3.alloc _) .i64 _ 1 1 [21] rfl (row_one _ w3.heap.size rfl 21) (by omega) (by omega) (by simp; omega) ?_; intro v4 w4 ho4 hb4; have k4 : KO w w4 := (KO.alloc k3 _).trans hb4; obtain ⟨a4, c4, rfl, _⟩ := owns_form ho4)
    | (at_builtin; refine wpList_append_row _ rfl (.tmp 17) (.tmp 18) 22 rfl w.heap.size 3 ii (.int .i64 0) 8 Try.underlying22 HII.out HY0.out HY1.out HY2.out rfl _ (n0 + 1) _ rfl ho4 .i64 a1 n1 c1 li rfl (H1.out.below k4) (by omega) (by omega) k4.size ?_; intro v5 w5 ho5 hb5; have k5 : KO w w5 := Below.trans k4 hb5; have z5 : w.heap.size ≤ w5.heap.size := Below.size k5)
    | (at_builtin; refine wpList_append_row _ rfl (.tmp 19) (.tmp 20) 22 rfl w.heap.size 3 ii (.int .i64 0) 8 Try.underlying22 HII.out HY0.out HY1.out HY2.out rfl _ (n0 + 1 + n1) _ rfl (ho5.alloc _) .i64 _ 1 1 [23] rfl (row_one _ w5.heap.size rfl 23) (by omega) (by omega) (by simp; omega) ?_; intro v6 w6 ho6 hb6; have k6 : KO w w6 := (KO.alloc k5 _).trans hb6; obtain ⟨a6, c6, rfl, _⟩ := owns_form ho6)
    | (at_builtin; refine wpList_append_row _ rfl (.tmp 22) (.tmp 23) 22 rfl w.heap.size 3 ii (.int .i64 0) 8 Try.underlying22 HII.out HY0.out HY1.out HY2.out rfl _ (n0 + 1 + n1 + 1) _ rfl ho6 .i64 a2 n2 c2 lb rfl (H2.out.below k6) (by omega) (by omega) k6.size ?_; intro v7 w7 ho7 hb7; have k7 : KO w w7 := Below.trans k6 hb7; obtain ⟨a7, c7, rfl, _⟩ := owns_form ho7))
  have hr : Row .i64 w7 a7 (n0 + 1 + n1 + 1 + n2) c7 (Ex.ar la li lb) := by
    have e : la.map (Value.int .i64) ++ [(21 : Int)].map (Value.int .i64) ++ li.map (Value.int .i64) ++ [(23 : Int)].map (Value.int .i64) ++ lb.map (Value.int .i64) = (Ex.ar la li lb).map (Value.int .i64) := by simp [Ex.ar]
    rw [e] at ho7
    obtain ⟨ao, c, e2, h⟩ := row_of_owns ho7
    simp only [Value.slice.injEq] at e2
    obtain ⟨rfl, _, rfl⟩ := e2
    exact h
  go_ret2
  exact ⟨a7, c7, by first | rfl | (congr 3), hr, k7⟩
end Go.Proofs.Ythoganddhoklpaa
