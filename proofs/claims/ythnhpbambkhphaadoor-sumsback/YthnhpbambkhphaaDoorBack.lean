/- The walk of the law that what is sealed is opened. -/
import Derived.Test.YthnhpbambkhphaaDoorWorks
namespace Go.Proofs.YthnhpbambkhphaaDoor
open Go.RowKit
set_option linter.unusedVariables false
set_option maxHeartbeats 2000000 in
theorem SumsBack_walk (w : World) (ht : Tab w) (a0 : Option Addr) (n0 cap0 : Nat) (xs : List Int) (h0 : Row .u8 w a0 n0 cap0 xs) (hf0 : ∀ x ∈ xs, (Lit.int .u8 x).wf = true) (hs0 : n0 * 1 ≤ 140737488351232) :
    Calls Tryd.prog 5 #[.slice a0 n0 cap0] w fun e w' => e = .returned (.bool true) ∧ Below w.heap.size w w' := by
  have HBY := hide (Bytes.of_wf hf0)
  have HT := hide ht
  have H0 := hide h0
  have L0 := hide h0.len
  have HW := hide (works_any _ ht)
  clear h0 hf0 ht
  go_enter Tryd.func5, Tryd.ntmps5
  go_wp2_with fail
  refine HW.out.mono ?_
  rintro e w1 ⟨rfl, hb1⟩
  have HB1 := hide hb1
  clear hb1 HW
  go_wp2_with fail
  refine (seal_any _ _ _ _ _ (H0.out.below HB1.out) HBY.out (HT.out.below HB1.out) (by omega)).mono ?_
  rintro e w2 ⟨v2, rfl, ho2, hb2⟩
  obtain ⟨a2, c2, rfl, hr2⟩ := row_of_owns ho2
  have HR2 := hide hr2
  have HB2 := hide (HB1.out.trans (hb2.mono HB1.out.size))
  have HY2 := hide (Sums.sealed_bytes HBY.out)
  clear ho2 hr2 hb2
  go_wp2_with fail
  refine (seal_any _ _ _ _ _ HR2.out HY2.out (HT.out.below HB2.out) (by omega)).mono ?_
  rintro e w3 ⟨v3, rfl, ho3, hb3⟩
  obtain ⟨a3, c3, rfl, hr3⟩ := row_of_owns ho3
  have HR3 := hide hr3
  have HR23 := hide (HR2.out.below hb3)
  have HB3 := hide (HB2.out.trans (hb3.mono HB2.out.size))
  have HY3 := hide (Sums.sealed_bytes HY2.out)
  clear ho3 hr3 hb3
  have hg3 := good_sealed (Sums.sealed xs)
  have hg2 := good_sealed xs
  have e3 : (Sums.sealed (Sums.sealed xs)).length - 4 = n0 + 4 := by rw [Sums.sealed_len, Sums.sealed_len, L0.out]; omega
  have e2 : (Sums.sealed xs).length - 4 = n0 := by rw [Sums.sealed_len, L0.out]; omega
  rw [e3] at hg3
  rw [e2] at hg2
  have HO3 := hide (open_good _ _ _ _ _ HR3.out HY3.out (HT.out.below HB3.out) (by omega) (by omega) hg3.1)
  rw [show n0 + 4 + 4 - 4 = n0 + 4 from by omega, hg3.2] at HO3
  have HG2 := hide hg2
  clear hg3 hg2 e3 e2
  go_wp2_with fail
  refine HO3.out.mono ?_
  rintro e w4 ⟨v4, rfl, ho4, hb4⟩
  obtain ⟨a4, c4, rfl, hr4⟩ := row_of_owns ho4
  have HR4 := hide hr4
  have HR24 := hide (HR23.out.below hb4)
  have HB4 := hide (HB3.out.trans (hb4.mono HB3.out.size))
  clear ho4 hr4 hb4 HO3
  have HO4 := hide (open_good _ _ _ _ _ HR4.out HY2.out (HT.out.below HB4.out) (by omega) (by omega) HG2.out.1)
  rw [show n0 + 4 - 4 = n0 from by omega, HG2.out.2] at HO4
  go_wp2_with fail
  refine HO4.out.mono ?_
  rintro e w5 ⟨v5, rfl, ho5, hb5⟩
  obtain ⟨a5, c5, rfl, hr5⟩ := row_of_owns ho5
  have hq5 := run_str _ _ _ _ _ hr5 HBY.out
  have hq4 := run_str _ _ _ _ _ (HR4.out.below hb5) HY2.out
  have hq2 := run_str _ _ _ _ _ (HR24.out.below hb5) HY2.out
  have HB5 := hide (HB4.out.trans (hb5.mono HB4.out.size))
  have hq0 := run_str _ _ _ _ _ (H0.out.below HB5.out) HBY.out
  clear ho5 hr5 hb5 HO4
  have h8 : ((n0 : Int) + 4 + 4 == (n0 : Int) + 8) = true := by simp; omega
  generalize str (Sums.sealed xs) = s1 at *
  generalize str xs = s2 at *
  go_wp2
  go_ret
  exact ⟨rfl, HB5.out⟩
end Go.Proofs.YthnhpbambkhphaaDoor
