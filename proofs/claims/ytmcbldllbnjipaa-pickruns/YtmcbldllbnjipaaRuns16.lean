/- PickRuns: which columns a range has is as the document has it. -/
import Derived.Test.YtmcbldllbnjipaaRr16
import Derived.Test.YtmcbldllbnjipaaWk16
namespace Go.Proofs.Ytmcbldllbnjipaa
open Go.RowKit
set_option linter.unusedVariables false
set_option maxHeartbeats 1000000
set_option maxRecDepth 100000
theorem rpruns_any (ao : Option Addr) (n cap : Nat) (l : List Int) (f t : Int) (w : World) (h : Row .i64 w ao n cap l) (hn : n ≤ 60) (R : List (Nat × Nat)) (E : Int) (hA : PRA l f t R E) :
    Calls Try.prog 11 #[.slice ao n cap, .int .i64 f, .int .i64 t] w fun e w' => ∃ a c, e = .returned (.tuple #[.slice a R.length c, .int .i64 E]) ∧ Pairs w' a R.length c R ∧ KO w w' := by
  by_cases hE : E = 0
  · subst hE
    exact rpruns_ok ao n cap l f t w h hn R hA
  · have hR : R = [] := by
      rcases hA with ⟨_, _, _, h0⟩ | ⟨_, h0, _⟩ | ⟨_, _, h0, _⟩
      · exact absurd h0 hE
      · exact h0
      · exact h0
    subst hR
    refine (rpruns_bad ao n cap l f t w h hn E hA hE).mono ?_
    rintro e w' ⟨rfl, hk⟩
    exact ⟨none, 0, rfl, pairs_nil _, hk⟩
theorem PickRuns_walk (w : World) (a0 : Option Addr) (n0 cap0 : Nat) (l : List Int) (h0 : Row .i64 w a0 n0 cap0 l) (hf0 : ∀ x ∈ l, (Lit.int .i64 x).wf = true) (hs0 : n0 * 8 ≤ 140737488351232) (f : Int) (hff : (Lit.int .i64 f).wf = true) (t : Int) (htt : (Lit.int .i64 t).wf = true) :
    Calls Try.prog 3 #[.slice a0 n0 cap0, .int .i64 f, .int .i64 t] w fun e w' => e = .returned (.bool true) ∧ Below w.heap.size w w' := by
  have HW := hide (fun w' => works16_any w')
  obtain ⟨ii, hii, hy0, hy1, hy2⟩ := info_parts infoInt
  have HII : Hid (Try.prog.info? 3 = some ii) := hii
  have HY0 := hide hy0
  have HY1 := hide hy1
  have HY2 := hide hy2
  by_cases hbig : 60 < n0
  · have hb1 : (60 : Int) < (n0 : Int) := by omega
    clear h0 hf0
    go_enter Try.func3, Try.ntmps3
    go_wp2_with fail
    refine (HW.out _).mono ?_
    rintro e w1 ⟨rfl, hk1⟩
    have K1 := hide hk1
    clear hk1
    go_wp2
    go_ret
    exact ⟨rfl, K1.out⟩
  · have hb1 : ¬ (60 : Int) < (n0 : Int) := by omega
    obtain ⟨R, E, hA⟩ := PRA_some l f t
    have HO := hide (fun (ao : Option Addr) (cap : Nat) (w' : World) (h : Row .i64 w' ao n0 cap l) => pruns_any ao n0 cap l f t w' h hs0 R E hA)
    have HR := hide (fun (w' : World) (hk : KO w w') => rpruns_any a0 n0 cap0 l f t w' (h0.below hk) (by omega) R E hA)
    have H0 := hide h0
    have K0 := hide (KO.alloc (KO.refl w) (.cells #[] 3))
    have R0 := hide (h0.below (KO.alloc (KO.refl w) (.cells #[] 3)))
    have OE := hide (owns_empty w 3 w.heap.size rfl)
    clear h0 hf0 hA hii hy0 hy1 hy2
    go_enter Try.func3, Try.ntmps3
    go_wp2_with (at_builtin; refine wpList_append_row _ rfl (.tmp 16) (.tmp 17) 22 rfl w.heap.size 3 ii (.int .i64 0) 8 Try.underlying22 HII.out HY0.out HY1.out HY2.out rfl _ 0 [] rfl OE.out .i64 _ n0 cap0 l rfl R0.out (by omega) (by omega) (by simp) ?_)
    intro v2 w2 ho2 hb2
    obtain ⟨ao, co, ev, hr2⟩ := row_of_owns ho2
    subst ev
    have K2 := hide (show KO w w2 from Below.trans K0.out hb2)
    have HO2 := hide (HO.out ao co w2 hr2)
    have R2 := hide hr2
    clear ho2 hb2 hr2 HO
    go_wp2_with fail
    refine HO2.out.mono ?_
    rintro e w3 ⟨a3, c3, rfl, hr3, hk3⟩
    have K3 := hide hk3
    have R3 := hide hr3
    have HR3 := hide (HR.out w3 (KO.on K2.out hk3))
    clear hr3 hk3 HO2 HR
    go_wp2_with fail
    refine HR3.out.mono ?_
    rintro e w4 ⟨a4, c4, rfl, hr4, hk4⟩
    have K4 := hide hk4
    have HI1 := hide (pi_same a3 a4 R.length c3 c4 (zi R) w4 (pi_of_pairs (R3.out.below hk4)) (pi_of_pairs hr4))
    clear hr4 hk4 HR3
    generalize R.length = nl at *
    go_wp2_with fail
    refine HI1.out.mono ?_
    rintro e w5 ⟨rfl, hd5⟩
    have K5 := hide (show KO w4 w5 from below_of_drewN hd5)
    have KA := hide (KO.on K3.out (KO.on K4.out K5.out))
    have HI2 := hide (ints_yes ao a0 n0 co cap0 l w5 (R2.out.below KA.out) (H0.out.below (KO.on K2.out KA.out)))
    have hee : (E == E) = true := by simp
    clear hd5 HI1
    go_wp2_with fail
    refine HI2.out.mono ?_
    rintro e w6 ⟨rfl, hd6⟩
    have K6 := hide (show KO w5 w6 from below_of_drewN hd6)
    clear hd6 HI2
    go_wp2_with fail
    refine (HW.out _).mono ?_
    rintro e w7 ⟨rfl, hk7⟩
    have K7 := hide hk7
    clear hk7
    go_wp2
    go_ret
    exact ⟨rfl, KO.on K2.out (KO.on KA.out (KO.on K6.out K7.out))⟩
end Go.Proofs.Ytmcbldllbnjipaa
