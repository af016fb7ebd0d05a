/- SpotPlaces: where places stand is the document's. -/
import Derived.Test.YtbbhefiibcbbfaaRq15
import Derived.Test.YtbbhefiibcbbfaaWorks15
namespace Go.Proofs.Ytbbhefiibcbbfaa
open Go.RowKit
set_option linter.unusedVariables false
set_option maxHeartbeats 1000000
set_option maxRecDepth 100000
theorem SpotPlaces_walk (w : World) (a0 : Option Addr) (n0 cap0 : Nat) (l : List Int) (h0 : Row .i64 w a0 n0 cap0 l) (hf0 : ∀ x ∈ l, (Lit.int .i64 x).wf = true) (hs0 : n0 * 8 ≤ 140737488351232) (k : Int) (hwk : (Lit.int .i64 k).wf = true) :
    Calls Try.prog 3 #[.slice a0 n0 cap0, .int .i64 k] w fun e w' => e = .returned (.bool true) ∧ Below w.heap.size w w' := by
  have HW := hide (fun w' => works15_any w')
  obtain ⟨ii, hii, hy0, hy1, hy2⟩ := info_parts infoInt
  have HII : Hid (Try.prog.info? 3 = some ii) := hii
  have HY0 := hide hy0
  have HY1 := hide hy1
  have HY2 := hide hy2
  by_cases hbig : 60 < n0
  · have hb1 : (60 : Int) < (n0 : Int) := by omega
    clear h0 hf0
    go_enter Try.func3, Try.ntmps3
    go_wp2_with fail
    refine (HW.out _).mono ?_
    rintro e w1 ⟨rfl, hk1⟩
    have K1 := hide hk1
    clear hk1
    go_wp2
    go_ret
    exact ⟨rfl, K1.out⟩
  · have hb1 : ¬ (60 : Int) < (n0 : Int) := by omega
    obtain ⟨Z, E, hA⟩ := SPA_some l k
    have hwz := SPA_wz hA 1000 (by rw [h0.len]; omega)
    have HO := hide (fun (ao : Option Addr) (cap : Nat) (w' : World) (h : Row .i64 w' ao n0 cap l) => spots_any ao n0 cap l k w' h (by omega) Z E hA)
    have HR := hide (fun (w' : World) (hk : KO w w') => rspots_any a0 n0 cap0 l k w' (h0.below hk) (by omega) Z E hA)
    have HS := hide (fun (a b : Option Addr) (c d : Nat) (W : World) (hz : ZR W a Z.length c Z) (hp : IP W b Z.length d Z) => spots_yes Z 1000 (by omega) hwz a b Z.length c d W hz hp)
    have H0 := hide h0
    have K0 := hide (KO.alloc (KO.refl w) (.cells #[] 3))
    have R0 := hide (h0.below (KO.alloc (KO.refl w) (.cells #[] 3)))
    have OE := hide (owns_empty w 3 w.heap.size rfl)
    clear h0 hf0 hA hwz hii hy0 hy1 hy2
    go_enter Try.func3, Try.ntmps3
    go_wp2_with (at_builtin; refine wpList_append_row _ rfl (.tmp 14) (.tmp 15) 22 rfl w.heap.size 3 ii (.int .i64 0) 8 Try.underlying22 HII.out HY0.out HY1.out HY2.out rfl _ 0 [] rfl OE.out .i64 _ n0 cap0 l rfl R0.out (by omega) (by omega) (by simp) ?_)
    intro v2 w2 ho2 hb2
    obtain ⟨ao, co, ev, hr2⟩ := row_of_owns ho2
    subst ev
    have K2 := hide (show KO w w2 from Below.trans K0.out hb2)
    have HO2 := hide (HO.out ao co w2 hr2)
    have R2 := hide hr2
    clear ho2 hb2 hr2 HO
    go_wp2_with fail
    refine HO2.out.mono ?_
    rintro e w3 ⟨a3, c3, rfl, hr3, hk3⟩
    have K3 := hide hk3
    have R3 := hide hr3
    have HR3 := hide (HR.out w3 (KO.on K2.out hk3))
    clear hr3 hk3 HO2 HR
    go_wp2_with fail
    refine HR3.out.mono ?_
    rintro e w4 ⟨a4, c4, rfl, hr4, hk4⟩
    have K4 := hide hk4
    have HS4 := hide (HS.out a3 a4 c3 c4 w4 (R3.out.below hk4) hr4)
    clear hr4 hk4 HR3 HS
    generalize Z.length = nl at *
    go_wp2_with fail
    refine HS4.out.mono ?_
    rintro e w5 ⟨rfl, hd5⟩
    have K5 := hide (show KO w4 w5 from below_of_drewN hd5)
    have HI5 := hide (ints_yes ao a0 n0 co cap0 l w5 (R2.out.below (KO.on K3.out (KO.on K4.out (below_of_drewN hd5)))) (H0.out.below (KO.on K2.out (KO.on K3.out (KO.on K4.out (below_of_drewN hd5))))))
    clear hd5 HS4
    have hEE : (E == E) = true := by simp
    go_wp2_with fail
    refine HI5.out.mono ?_
    rintro e w6 ⟨rfl, hd6⟩
    have K6 := hide (show KO w5 w6 from below_of_drewN hd6)
    clear hd6 HI5
    go_wp2_with fail
    refine (HW.out _).mono ?_
    rintro e w7 ⟨rfl, hk7⟩
    have K7 := hide hk7
    clear hk7
    go_wp2
    go_ret
    exact ⟨rfl, KO.on K2.out (KO.on K3.out (KO.on K4.out (KO.on K5.out (KO.on K6.out K7.out))))⟩
end Go.Proofs.Ytbbhefiibcbbfaa
