import Derived.Test.YtfadjgaledddjaaGreatDoorZp
import Derived.Test.YtfadjgaledddjaaGreatDoorZm2
import Derived.Test.YtfadjgaledddjaaGreatDoorZc
import Derived.Deep.Cut
import Derived.Deep.QuietTactic
import Derived.BigQuiet
/- LevelsRange. -/
namespace Go.Proofs.YtfadjgaledddjaaGreatDoor
open Go.RowKit
set_option linter.unusedVariables false
set_option maxHeartbeats 2000000
set_option maxRecDepth 100000
theorem LevelsRange_walk (w : World) (hm : Marks w) (a0 : Option Addr) (n0 c0 : Nat) (l : List Int) (h0 : Row .i32 w a0 n0 c0 l) (f0 : ∀ x ∈ l, (Lit.int .i32 x).wf = true) (b0 : n0 * 4 ≤ 140737488351232) (base : Int) (f1 : (Lit.int .i64 base).wf = true) :
    Calls Tryz.prog 5 #[.slice a0 n0 c0, .int .i64 base] w fun e w' => e = .returned (.bool true) ∧ Below w.heap.size w w' := by
  have HW := hide (works12_any w hm)
  by_cases hbig : 600 < n0
  · have hbig' : (600 : Int) < (n0 : Int) := by omega
    clear hm h0 f0 f1
    go_enter Tryz.func5, Tryz.ntmps5
    go_wp2_with fail
    refine HW.out.mono ?_
    rintro e w1 ⟨rfl, hk⟩
    go_wp2
    go_ret
    exact ⟨rfl, hk⟩
  · have hbig' : ¬ (600 : Int) < (n0 : Int) := by omega
    obtain ⟨m, L, E, hPA⟩ := Rn.PA_some l base
    have hln := h0.len
    have HPA := hide (fun W (hk : KO w W) => paragraph_any a0 n0 c0 l base W (h0.below hk) f0 (hm.below hk) (by omega) m L E hPA)
    unfold RPA at HPA
    by_cases hE : E = 0
    · subst hE
      obtain ⟨hm01, hmb, hLn, hLV, hF, hPB⟩ := Rn.PA_again hPA
      have HPB := hide (fun W (hk : KO w W) => paragraph_any a0 n0 c0 l m W (h0.below hk) f0 (hm.below hk) (by omega) m L 0 hPB)
      unfold RPA at HPB
      rw [hln] at hLn
      rw [hLn] at HPA HPB
      have HC := hide (fun W (hk : KO w W) => classes_any a0 n0 c0 l W (h0.below hk) f0 (by omega))
      have HCL := hide (fun i (hi : i < n0) => Rn.VS_cases hm01 hF (show i < l.length from by omega))
      rw [← hLV] at HCL
      have HAT := hide (fun i (hi : i < n0) => Rn.cl_at l (show i < l.length from by omega))
      have hq1 : ¬ (m != 0) = true ∨ ((m != 0) = true ∧ (m != 1) = false) := by rcases hm01 with rfl | rfl <;> decide
      have hq2 : ¬ 0 ≤ base ∨ (0 ≤ base ∧ (m != base) = false) := by
        by_cases hb : 0 ≤ base
        · exact .inr ⟨hb, by rw [hmb hb]; simp⟩
        · exact .inl hb
      have HLL := hide hLn
      have HNN := hide (show (Rn.cl l).length = n0 from by rw [Rn.cl_len]; exact hln)
      clear hm h0 f0 f1 hPA hPB hLV hF hmb hLn hln hbig
      generalize Rn.cl l = C at *
      go_enter Tryz.func5, Tryz.ntmps5
      go_wp2_with fail
      refine HW.out.mono ?_
      rintro e w1 ⟨rfl, hk1⟩
      have HP1 := hide (HPA.out w1 hk1)
      have HK1 := hide hk1
      clear hk1 HPA HW
      go_wp2_with fail
      refine HP1.out.mono ?_
      rintro e w2 ⟨a2, c2, rfl, hr2, hk2⟩
      have HK2 := hide (KO.on HK1.out hk2)
      have HR2 := hide hr2
      have HC2 := hide (HC.out w2 HK2.out)
      clear hr2 hk2 HP1 HC HK1
      go_wp2_with fail
      refine HC2.out.mono ?_
      rintro e w3 ⟨rfl, hn3⟩
      obtain ⟨g3, hg3⟩ : ∃ g, w2.heap.size = g := ⟨_, rfl⟩
      have HR3 := hide (show Row .i64 w3 (some ⟨g3, 0, none⟩) n0 n0 C from by rw [← hg3]; exact hn3.row)
      have HK3 := hide (KO.on HK2.out hn3.bel)
      have HR2' := hide (HR2.out.below hn3.bel)
      rw [hg3]
      clear hn3 HC2 hg3 HK2 HR2
      go_upto_region 9 with fail
      go_cut [64] from 36 to 64 (fun s64 wx => s64 = .bool false ∧ w3 = wx)
      case first =>
        clear HPB HCL HLL HAT HNN HR3 HK3 HR2'
        rcases hm01 with rfl | rfl
        all_goals
          rcases hq2 with hq2 | ⟨hq2, hq3⟩
          all_goals
            go_wp2
            go_meet
            exact ⟨rfl, rfl⟩
      obtain ⟨rfl, rfl⟩ := hcut
      have HPB3 := hide (fun W (hk : KO w3 W) => HPB.out W (KO.on HK3.out hk))
      clear hq1 hq2 HPB
      go_wp2
      go_loopw [67] (fun s67 wr => ∃ k : Nat, k ≤ n0 ∧ s67 = .int .i64 (k : Int) ∧ Hid (KO w3 wr)) (fun s67 _ => n0 - (intOf s67).toNat)
      case atStart => exact ⟨0, Nat.zero_le _, rfl, hide (KO.refl _)⟩
      case round =>
        obtain ⟨k, hk, rfl, HKR⟩ := hrel
        by_cases hlt : k < n0
        · have hin : (k : Int) < (n0 : Int) := by omega
          have ck := rowAt HR3.out HKR.out k hlt
          rw [Nat.zero_add] at ck
          obtain ⟨b2, o2, e2, hb2, hc2⟩ := HR2'.out.cells (by omega)
          have cv := (Below.cell HKR.out (by exact hb2)).trans (hc2 k (by rw [HLL.out]; exact hlt))
          have hcs := HCL.out k hlt
          rw [← HAT.out k hlt] at hcs
          have HMS := hide (meas_n0 n0 k hlt)
          have HDD := hide (fun q => KO.on HKR.out (below_drewN wr q))
          subst e2
          clear hc2 HKR
          have hm2 : ¬ (126 : Int) < m := by rcases hm01 with rfl | rfl <;> omega
          have hm3 : (m == -1) = false := by rcases hm01 with rfl | rfl <;> rfl
          have hm4 : (m != -1) = true := by rcases hm01 with rfl | rfl <;> rfl
          have HRE := hide (fun W => removed_any (C.getD k 0) W)
          generalize C.getD k 0 = x at *
          generalize L.getD k 0 = v at *
          rcases hcs with ⟨h1, rfl, h3⟩ | ⟨rfl, rfl⟩ | ⟨h1, h2, h3, h4⟩
          · rw [h1] at HRE
            have hx : (x == 11) = false := beq_false_of_ne h3
            clear hm2 hm3 hm4 hm01 h1 h3
            go_wp2
            go_quiet (first | (go_at_call 16; refine Calls.quiet_of_same ((HRE.out _).mono fun _ _ ⟨he, hm⟩ => ⟨he, hm.symm⟩)))
            go_wp2
            go_roundw
            case rel => exact ⟨k + 1, by omega, by go_num, hide (HDD.out _)⟩
            case measure => exact HMS.out
          · have hv1 : decide (v < v) = false := by simp
            have hv2 : decide ((126 : Int) < v) = false := decide_eq_false hm2
            have hv3 : (v != v) = false := by simp
            rw [show Ex.rm 11 = false from rfl] at HRE
            clear hm01
            go_wp2
            go_quiet (first | (go_at_call 16; refine Calls.quiet_of_same ((HRE.out _).mono fun _ _ ⟨he, hm⟩ => ⟨he, hm.symm⟩)))
            go_wp2
            go_roundw
            case rel => exact ⟨k + 1, by omega, by go_num, hide (HDD.out _)⟩
            case measure => exact HMS.out
          · rw [h1] at HRE
            have hx : (x == 11) = false := beq_false_of_ne h2
            have hv0 : (v == -1) = false := beq_false_of_ne (by rcases hm01 with rfl | rfl <;> omega)
            have hv4 : (v != -1) = true := bne_iff_ne.2 (by rcases hm01 with rfl | rfl <;> omega)
            have hv1 : decide (v < m) = false := decide_eq_false (by omega)
            have hv2 : decide ((126 : Int) < v) = false := decide_eq_false (by omega)
            clear hm2 hm3 hm4 hm01 h1 h2 h3 h4
            go_wp2
            go_quiet (first | (go_at_call 16; refine Calls.quiet_of_same ((HRE.out _).mono fun _ _ ⟨he, hm⟩ => ⟨he, hm.symm⟩)))
            go_wp2
            go_roundw
            case rel => exact ⟨k + 1, by omega, by go_num, hide (HDD.out _)⟩
            case measure => exact HMS.out
        · obtain rfl : k = n0 := by omega
          have hne : ¬ ((k : Int) < (k : Int)) := by omega
          have HP4 := hide (HPB3.out wr HKR.out)
          have HKW := hide (KO.on HK3.out HKR.out)
          have HR5 := hide (HR2'.out.below HKR.out)
          clear HKR HPB3
          go_wp2_with fail
          refine HP4.out.mono ?_
          rintro e w5 ⟨a5, c5, rfl, hr5, hk5⟩
          have HI := hide (ints_yes a2 a5 k c2 c5 L w5 (HR5.out.below hk5) hr5)
          have HK5 := hide (KO.on HKW.out hk5)
          have hmm : (m == m) = true := by simp
          clear hr5 hk5 HP4 HKW HR5
          go_wp2_with fail
          refine HI.out.mono ?_
          rintro e w6 ⟨rfl, hd6⟩
          have HK6 := hide (KO.on HK5.out (below_of_drewN hd6))
          clear hd6 HI HK5
          go_wp2
          go_ret
          exact ⟨rfl, HK6.out⟩
    · have hE2 : m = 0 ∧ L = [] := by
        rcases Rn.PA_err hPA with ⟨q, _⟩ | ⟨_, q1, q2, _⟩
        · exact absurd q hE
        · exact ⟨q1, q2⟩
      obtain ⟨rfl, rfl⟩ := hE2
      have hEb : (E != 0) = true := bne_iff_ne.2 hE
      clear hm h0 f0 f1 hPA hln hbig
      go_enter Tryz.func5, Tryz.ntmps5
      go_wp2_with fail
      refine HW.out.mono ?_
      rintro e w1 ⟨rfl, hk1⟩
      have HP1 := hide (HPA.out w1 hk1)
      have HK1 := hide hk1
      clear hk1 HPA HW
      go_wp2_with fail
      refine HP1.out.mono ?_
      rintro e w2 ⟨a2, c2, rfl, hr2, hk2⟩
      have HK2 := hide (KO.on HK1.out hk2)
      clear hr2 hk2 HP1 HK1
      go_wp2
      go_ret
      exact ⟨rfl, HK2.out⟩
end Go.Proofs.YtfadjgaledddjaaGreatDoor
