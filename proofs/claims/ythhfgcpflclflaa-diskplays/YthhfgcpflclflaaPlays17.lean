/- The law DiskPlays: a story of calls, of both disks. -/
import Derived.Test.YthhfgcpflclflaaDc17
import Derived.Test.YthhfgcpflclflaaWk17
namespace Go.Proofs.Ythhfgcpflclflaa
open Go.RowKit
set_option linter.unusedVariables false
set_option maxHeartbeats 2000000
set_option maxRecDepth 100000
theorem DiskPlays_walk (w : World) (m : Int) (hm : (Lit.int .i64 m).wf = true) (a0 : Option Addr) (n0 cap0 : Nat) (h0 : Acts17 w a0 n0 cap0) :
    Calls Try.prog 3 #[.int .i64 m, .slice a0 n0 cap0] w fun e w' => e = .returned (.bool true) ∧ Below w.heap.size w w' := by
  have H0 := hide h0
  have HWK := hide works17_any
  clear h0 hm
  by_cases hn : 1 ≤ m ∧ m ≤ 4096
  · obtain ⟨n, rfl⟩ : ∃ n : Nat, m = (n : Int) := ⟨m.toNat, by omega⟩
    have hn1 : 1 ≤ n := by omega
    have hn2 : n ≤ 4096 := by omega
    have HND := hide (onew_ok w n hn1 hn2)
    clear hn
    by_cases h40 : n ≤ 40
    · have e40 : ¬ (40 : Int) < (n : Int) := by omega
      go_enter Try.func3, Try.ntmps3
      go_wp2_with fail
      refine HND.out.mono ?_
      rintro e w1 ⟨g, rfl, ho1, hk1⟩
      have K1 := hide hk1
      have O1 : Hid (OD (fun y => w.heap.size ≤ y ∧ y < w1.heap.size) w1 g (Dk.NW n)) := hide (ho1.mono fun y hy q => ⟨q, hy⟩)
      have HNR := hide (xnew_ok w1 n hn1 hn2)
      clear ho1 hk1
      go_wp2_with fail
      refine HNR.out.mono ?_
      rintro e w2 ⟨r, rfl, ho2, hk2⟩
      have K2 := hide (KO.on K1.out hk2)
      have HP2 : Hid (PR (fun y => w.heap.size ≤ y) w2 g r (Dk.NW n) (Dk.NW n)) := hide (PR.make (E := w1.heap.size) (O1.out.ko hk2) ho2 K1.out.size K2.out.size)
      have HB2 : Hid (Bd (Dk.NW n) 0) := hide (Bd.nw hn2)
      have HNM := hide (names17_any w2)
      clear ho2 hk2 HNR
      go_wp2_with fail
      refine HNM.out.mono ?_
      rintro e w3 ⟨rfl, rfl⟩
      go_wp2
      go_loopw [5, 7, 9, 10] (fun s5 s7 s9 _ wr => ∃ (i g r : Nat) (d : Dk.Ds), i ≤ 60 ∧ s5 = .pointer (some ⟨g, 0, none⟩) ∧ s7 = .pointer (some ⟨r, 0, none⟩) ∧ s9 = .int .i64 (i : Int) ∧ Hid (PR (fun y => w.heap.size ≤ y) wr g r d d) ∧ Hid (Bd d i) ∧ KO w wr) (fun _ _ s9 _ _ => 60 - (intOf s9).toNat)
      case atStart => exact ⟨0, g, r, Dk.NW n, by omega, rfl, rfl, rfl, HP2, HB2, K2.out⟩
      case round =>
        obtain ⟨i, gd, gr, d, hi, rfl, rfl, rfl, HP, HB, hko⟩ := hrel
        have KR := hide hko
        by_cases hgo : i < n0 ∧ i < 60
        · obtain ⟨hin, hi60⟩ := hgo
          have e1 : (i : Int) < (n0 : Int) := by omega
          have e2 : (i : Int) < 60 := by omega
          obtain ⟨ba, oa, rfl, hba, hact⟩ := H0.out.cells (by omega)
          obtain ⟨x, hA0, hG0⟩ := hact i hin
          have hA := hA0.below hko hba
          have c0 := hA.c0
          have c1 := hA.c1
          have c2 := hA.c2
          have c3 := hA.c3
          have c4 := hA.c4
          have HDO := hide (does_any w.heap.size wr gd gr d i HP.out hko.size HB.out (by omega) x fun w' hb => hG0.below (hko.trans hb))
          clear hA hA0 hG0 hact hko
          go_wp2_with fail
          refine HDO.out.mono ?_
          rintro e w6 ⟨g', r', d', rfl, hp6, hb6, hbel6⟩
          have P6 := hide hp6
          have B6 := hide hb6
          have K6 := hide (KR.out.trans hbel6)
          have HAL := hide (alike_any hp6 hb6 (by omega))
          clear hp6 hb6 hbel6 HDO c0 c1 c2 c3 c4
          go_wp2_with fail
          refine HAL.out.mono ?_
          rintro e w7 ⟨rfl, hk7⟩
          have P7 := hide (P6.out.ko hk7)
          have K7 := hide (KO.on K6.out hk7)
          clear hk7
          go_wp2
          go_roundw
          case rel => exact ⟨i + 1, g', r', d', by omega, rfl, rfl, by go_num, P7, B6, K7.out⟩
          case measure => simp [intOf]; omega
        · have hcase : (¬ (i : Int) < (n0 : Int)) ∨ ((i : Int) < (n0 : Int) ∧ ¬ (i : Int) < 60) := by omega
          have HWR := hide (HWK.out wr)
          clear hko hgo
          rcases hcase with e1 | ⟨e1, e2⟩
          all_goals
            go_wp2_with fail
            refine HWR.out.mono ?_
            rintro e w7 ⟨rfl, hk7⟩
            have K7 := hide (KO.on KR.out hk7)
            clear hk7
            go_wp2
            go_ret
            exact ⟨rfl, K7.out⟩
    · have e40 : (40 : Int) < (n : Int) := by omega
      go_enter Try.func3, Try.ntmps3
      go_wp2_with fail
      refine HND.out.mono ?_
      rintro e w1 ⟨g, rfl, _, hk1⟩
      have K1 := hide hk1
      have HNR := hide (xnew_ok w1 n hn1 hn2)
      clear hk1
      go_wp2_with fail
      refine HNR.out.mono ?_
      rintro e w2 ⟨r, rfl, _, hk2⟩
      have K2 := hide (KO.on K1.out hk2)
      have HNM := hide (names17_any w2)
      clear hk2 HNR
      go_wp2_with fail
      refine HNM.out.mono ?_
      rintro e w3 ⟨rfl, rfl⟩
      have HW2 := hide (HWK.out w2)
      go_wp2_with fail
      refine HW2.out.mono ?_
      rintro e w4 ⟨rfl, hk4⟩
      have K4 := hide (KO.on K2.out hk4)
      clear hk4
      go_wp2
      go_ret
      exact ⟨rfl, K4.out⟩
  · have HND := hide (pnew_bad w m (by omega))
    have HNR := hide (rnew_bad w m hn)
    have HNM := hide (names17_any w)
    have HW2 := hide (HWK.out w)
    clear hn
    go_enter Try.func3, Try.ntmps3
    go_wp2_with fail
    refine HND.out.mono ?_
    rintro e w1 ⟨rfl, rfl⟩
    go_wp2_with fail
    refine HNR.out.mono ?_
    rintro e w1 ⟨rfl, rfl⟩
    go_wp2_with fail
    refine HNM.out.mono ?_
    rintro e w1 ⟨rfl, rfl⟩
    go_wp2_with fail
    refine HW2.out.mono ?_
    rintro e w4 ⟨rfl, hk4⟩
    have K4 := hide hk4
    clear hk4
    go_wp2
    go_ret
    exact ⟨rfl, K4.out⟩
end Go.Proofs.Ythhfgcpflclflaa
