import Derived.Test.YtfadjgaledddjaaGreatDoorZa
import Derived.Test.YtfadjgaledddjaaGreatDoorZp
import Derived.Test.YtfadjgaledddjaaGreatDoorZy
/- Like lists of runes. -/
namespace Go.Proofs.YtfadjgaledddjaaGreatDoor
open Go.RowKit
set_option linter.unusedVariables false
set_option maxHeartbeats 1000000
set_option maxRecDepth 100000
theorem runes_yes (a0 a1 : Option Addr) (n c0 c1 : Nat) (l : List Int) (w : World) (h0 : Row .i32 w a0 n c0 l) (h1 : Row .i32 w a1 n c1 l) :
    Calls Tryz.prog 13 #[.slice a0 n c0, .slice a1 n c1] w fun e w' => e = .returned (.bool true) ∧ ∃ k, w' = w.drewN k := by
  have hx := h0.le
  have hm := h0.max
  unfold maxLen at hm
  have hl := h0.len
  have H0 := hide h0
  have H1 := hide h1
  have HL := hide hl
  clear h0 h1 hl
  go_enter Tryz.func13, Tryz.ntmps13
  go_wp2
  go_loopw [5] (fun i wr => ∃ k nq : Nat, k ≤ n ∧ i = .int .i64 k ∧ wr = w.drewN nq) (fun i _ => n - (intOf i).toNat)
  case atStart => exact ⟨0, 0, Nat.zero_le _, rfl, rfl⟩
  case round =>
    obtain ⟨k, nq, hk, rfl, rfl⟩ := hrel
    by_cases hlt : k < n
    · obtain ⟨b0, o0, rfl, _, hc0⟩ := H0.out.cells (by omega)
      obtain ⟨b1, o1, rfl, _, hc1⟩ := H1.out.cells (by omega)
      have g0 := hc0 k (by have := HL.out; omega)
      have g1 := hc1 k (by have := HL.out; omega)
      clear hc0 hc1
      generalize l.getD k 0 = x at *
      have hlt' : (k : Int) < (n : Int) := by omega
      go_wp2
      go_quiet (fail)
      go_wp2
      go_roundw
      case rel => exact ⟨k + 1, _, by omega, by go_num, by first | rfl | exact World.drewN_drewN _ _ _⟩
      case measure => simp [intOf]; omega
    · go_wp2
      go_ret
      exact ⟨rfl, _, rfl⟩
end Go.Proofs.YtfadjgaledddjaaGreatDoor

/- LevelsParagraph. -/
namespace Go.Proofs.YtfadjgaledddjaaGreatDoor
open Go.RowKit
set_option linter.unusedVariables false
set_option maxHeartbeats 1000000
set_option maxRecDepth 100000
theorem LevelsParagraph_walk (w : World) (hm : Marks w) (a0 : Option Addr) (n0 c0 : Nat) (l : List Int) (h0 : Row .i32 w a0 n0 c0 l) (f0 : ∀ x ∈ l, (Lit.int .i32 x).wf = true) (b0 : n0 * 4 ≤ 140737488351232) (base : Int) (f1 : (Lit.int .i64 base).wf = true) :
    Calls Tryz.prog 3 #[.slice a0 n0 c0, .int .i64 base] w fun e w' => e = .returned (.bool true) ∧ Below w.heap.size w w' := by
  by_cases hbig : 100 < n0 ∧ n0 ≤ 4096
  · have hbig' : (100 : Int) < (n0 : Int) := by omega
    have hbig2 : (n0 : Int) ≤ 4096 := by omega
    have HW := hide (works12_any w hm)
    clear hm h0 f0 f1
    go_enter Tryz.func3, Tryz.ntmps3
    go_wp2_with fail
    refine HW.out.mono ?_
    rintro e w1 ⟨rfl, hk⟩
    go_wp2
    go_ret
    exact ⟨rfl, hk⟩
  · have hgd : ¬ (100 : Int) < (n0 : Int) ∨ ((100 : Int) < (n0 : Int) ∧ ¬ (n0 : Int) ≤ 4096) := by omega
    obtain ⟨m, L, E, hPA⟩ := Rn.PA_some l base
    have HPA := hide (fun W ao cap (hk : KO w W) (h : Row .i32 W ao n0 cap l) => paragraph_any ao n0 cap l base W h f0 (hm.below hk) (by omega) m L E hPA)
    have HPB := hide (fun W (hk : KO w W) => rparagraph12_any a0 n0 c0 l base W (h0.below hk) f0 (by omega) m L E hPA)
    have HW := hide (fun W (hk : KO w W) => works12_any W (hm.below hk))
    obtain ⟨ir, hir, hz0, hz1, hz2⟩ := info_parts infoRune12
    have HIR := hide hir
    have HZ0 := hide hz0
    have HZ1 := hide hz1
    have HZ2 := hide hz2
    obtain ⟨W1, hW1⟩ : ∃ W1, w.alloc (.cells #[] 21) = W1 := ⟨_, rfl⟩
    have hk1 : KO w W1 := by rw [← hW1]; exact KO.alloc (KO.refl _) _
    have HO1 := hide (show W1.ownsRow w.heap.size 21 1 (.slice (some ⟨w.heap.size, 0, none⟩) 0 0) 0 [] from by rw [← hW1]; exact owns_empty w 21 w.heap.size rfl)
    have HR1 := hide (h0.below hk1)
    have HK1 := hide hk1
    have H0 := hide h0
    unfold RPA at HPA HPB
    generalize hLL : L.length = LL at *
    clear hm h0 f0 f1 hir hz0 hz1 hz2 hk1 hPA hLL hbig
    rcases hgd with hgd | ⟨hgd, hgd2⟩
    all_goals
      go_enter Tryz.func3, Tryz.ntmps3
      have HPREP := hide (fun (v2 : Value) (W2 : World) (ho2 : W2.ownsRow w.heap.size 21 1 v2 (0 + n0) ([] ++ l.map (Value.int .i32))) (hb2 : Below w.heap.size W1 W2) => show ∃ ao cap, v2 = .slice ao n0 cap ∧ Hid (Row .i32 W2 ao n0 cap l) ∧ Hid (KO w W2) from by
        rw [Nat.zero_add, List.nil_append] at ho2
        obtain ⟨ao, cap, e2, hr2⟩ := row_of_owns ho2
        exact ⟨ao, cap, e2, hide hr2, hide (HK1.out.trans hb2)⟩)
      go_wp2_with (first
        | (at_builtin; refine wpList_append_row W1 (by rfl) (.tmp 21) (.tmp 22) 22 rfl w.heap.size 21 ir (.int .i32 0) 4 Tryz.underlying22 HIR.out HZ0.out HZ1.out HZ2.out rfl _ 0 _ rfl HO1.out .i32 a0 n0 c0 l rfl HR1.out (by omega) (by omega) HK1.out.size ?_; intro v2 W2 ho2 hb2; obtain ⟨ao2, cap2, rfl, HR2, HK2⟩ := HPREP.out v2 W2 ho2 hb2; clear ho2 hb2 hW1)
        | (go_at_call 10; fail))
      have HP2 := hide (HPA.out W2 ao2 cap2 HK2.out HR2.out)
      clear HPREP HPA HO1 HR1 HK1
      refine HP2.out.mono ?_
      rintro e w3 ⟨a3, c3, rfl, hr3, hk3⟩
      have HK3 := hide (KO.on HK2.out hk3)
      have HR3 := hide hr3
      have HR2' := hide (HR2.out.below hk3)
      have HP3 := hide (HPB.out w3 HK3.out)
      clear hr3 hk3 HP2 HPB HK2 HR2
      go_wp2_with fail
      refine HP3.out.mono ?_
      rintro e w4 ⟨a4, c4, rfl, hr4, hk4⟩
      have HK4 := hide (KO.on HK3.out hk4)
      have HI := hide (ints_yes a3 a4 LL c3 c4 L w4 (HR3.out.below hk4) hr4)
      have HRU := hide (fun W (hk : KO w4 W) => runes_yes ao2 a0 n0 cap2 c0 l W (HR2'.out.below (KO.on hk4 hk)) (H0.out.below (KO.on HK4.out hk)))
      clear hr4 hk4 HP3 HK3 HR3 HR2'
      go_wp2_with fail
      refine HI.out.mono ?_
      rintro e w5 ⟨rfl, hd5⟩
      have HK5 := hide (show KO w4 w5 from below_of_drewN hd5)
      have HRU5 := hide (HRU.out w5 HK5.out)
      clear hd5 HI HRU
      go_wp2_with fail
      refine HRU5.out.mono ?_
      rintro e w6 ⟨rfl, hd6⟩
      have HK6 := hide (KO.on HK4.out (KO.on HK5.out (below_of_drewN hd6)))
      have HW6 := hide (HW.out w6 HK6.out)
      clear hd6 HRU5 HK5 HK4
      go_wp2_with fail
      refine HW6.out.mono ?_
      rintro e w7 ⟨rfl, hk7⟩
      have HK7 := hide (KO.on HK6.out hk7)
      clear hk7 HW6
      go_wp2
      go_ret
      exact ⟨rfl, HK7.out⟩
end Go.Proofs.YtfadjgaledddjaaGreatDoor
