/- BracketResolves: its walk. -/
import Derived.Test.YtkkmifpdhcdkpaaDoorRr10
import Derived.Test.YtkkmifpdhcdkpaaDoorCp10
import Derived.Test.YtkkmifpdhcdkpaaDoorPairs10
import Derived.Deep.RegionHeldLaw
import Derived.Deep.RegionHeld3
import Derived.Deep.Cut
import Derived.Deep.CutRange
namespace Go.Proofs.YtkkmifpdhcdkpaaDoor
open Go.RowKit
set_option linter.unusedVariables false
set_option maxHeartbeats 8000000
set_option maxRecDepth 100000
theorem BracketResolves_walk (w : World) (hm : Marks w) (a0 : Option Addr) (n0 c0 : Nat) (l : List Int) (h0 : Row .i32 w a0 n0 c0 l) (f0 : ∀ x ∈ l, (Lit.int .i32 x).wf = true) (b0 : n0 * 4 ≤ 140737488351232)
    (a1 : Option Addr) (n1 c1 : Nat) (was : List Int) (h1 : Row .i64 w a1 n1 c1 was) (f1 : ∀ x ∈ was, (Lit.int .i64 x).wf = true) (b1 : n1 * 8 ≤ 140737488351232)
    (a2 : Option Addr) (n2 c2 : Nat) (t : List Int) (h2 : Row .i64 w a2 n2 c2 t) (f2 : ∀ x ∈ t, (Lit.int .i64 x).wf = true) (b2 : n2 * 8 ≤ 140737488351232)
    (lv : Int) (wf1 : (Lit.int .i64 lv).wf = true) (s : Int) (wf2 : (Lit.int .i64 s).wf = true) :
    Calls Tryd.prog 4 #[.agg #[.slice a0 n0 c0, .slice a1 n1 c1, .slice a2 n2 c2], .int .i64 lv, .int .i64 s] w fun e w' => e = .returned (.bool true) ∧ Below w.heap.size w w' := by
  obtain ⟨W0, hW0⟩ : ∃ W0, w.alloc (.cells #[.slice a0 n0 c0, .slice a1 n1 c1, .slice a2 n2 c2] 36) = W0 := ⟨_, rfl⟩
  have hk0 : KO w W0 := by rw [← hW0]; exact KO.alloc (KO.refl _) _
  have hbx : W0.heap[w.heap.size]? = some (.cells #[.slice a0 n0 c0, .slice a1 n1 c1, .slice a2 n2 c2] 36 (0, 0)) := by rw [← hW0]; exact heap_alloc_last w _
  have hs0 : w.heap.size < W0.heap.size := by rw [← hW0]; simp
  have m0 : ∀ X, KO W0 X → X.cell? ⟨w.heap.size, 0, none⟩ = some (.slice a0 n0 c0) := fun X hk => cell_of_block ((hk.block _ hs0).trans hbx) rfl
  have m1 : ∀ X, KO W0 X → X.cell? ⟨w.heap.size, 1, none⟩ = some (.slice a1 n1 c1) := fun X hk => cell_of_block ((hk.block _ hs0).trans hbx) rfl
  have m2 : ∀ X, KO W0 X → X.cell? ⟨w.heap.size, 2, none⟩ = some (.slice a2 n2 c2) := fun X hk => cell_of_block ((hk.block _ hs0).trans hbx) rfl
  have HM := hide (hm.below hk0)
  have H0 := hide (h0.below hk0)
  have H1 := hide (h1.below hk0)
  have H2 := hide (h2.below hk0)
  have HF := hide f0
  have HK0 := hide hk0
  have z0 := m0 W0 (KO.refl _)
  have HM0 := hide m0
  have HM1 := hide m1
  have HM2 := hide m2
  clear hm h0 h1 h2 f0 f1 f2 wf1 wf2 hk0 hbx hs0
  by_cases hbig : 400 < n0
  · have hbig' : (400 : Int) < (n0 : Int) := by omega
    have HW := hide (works10_any W0 HM.out)
    clear m0 m1 m2
    go_enter Tryd.func4, Tryd.ntmps4
    go_wp2_with fail
    refine HW.out.mono ?_
    rintro e w1 ⟨rfl, hk⟩
    go_wp2
    go_ret
    exact ⟨rfl, KO.on HK0.out hk⟩
  · have hbig' : ¬ (400 : Int) < (n0 : Int) := by omega
    obtain ⟨ir, hir, hz0, hz1, hz2⟩ := info_parts infoRune'
    obtain ⟨ii, hii, hy0, hy1, hy2⟩ := info_parts infoInt
    have HIR := hide hir
    have HZ0 := hide hz0
    have HZ1 := hide hz1
    have HZ2 := hide hz2
    have HII := hide hii
    have HY0 := hide hy0
    have HY1 := hide hy1
    have HY2 := hide hy2
    clear hir hz0 hz1 hz2 hii hy0 hy1 hy2 m0 m1 m2
    go_enter Tryd.func4, Tryd.ntmps4
    go_upto_region 3 with fail
    clear hW0 z0
    go_cut [7, 8, 9] from 19 to 30 (fun sa sb sc wx => ∃ aa ca ab cb ac cc, sa = .slice aa n0 ca ∧ sb = .slice ab n1 cb ∧ sc = .slice ac n2 cc ∧ Row .i32 wx aa n0 ca l ∧ Row .i64 wx ab n1 cb was ∧ Row .i64 wx ac n2 cc t ∧ KO W0 wx)
    case first =>
      have m0 := HM0.out
      have m1 := HM1.out
      have m2 := HM2.out
      have hK : KO W0 W0 := KO.refl _
      have hKd : KO W0 W0.drew := KO.drew hK
      have hJ : AllR W0 [] W0.drew := ⟨hKd, fun r hr => by cases hr⟩
      refine wp_region_noPanic ?_
      go_region_held_law (fun w' => KO W0 w') (first | assumption | exact KO.alloc (by assumption) _)
        (first
          | (refine step_copyJ hJ (by first | exact KO.refl _ | exact KO.alloc (KO.refl _) _ | exact KO.alloc (KO.alloc (KO.refl _) _) _ | exact KO.alloc (KO.alloc (KO.alloc (KO.refl _) _) _) _) rfl (.tmp 19) (.tmp 21) 22 rfl 21 ir _ 4 Tryd.underlying22 HIR.out HZ0.out HZ1.out HZ2.out rfl _ rfl .i32 a0 n0 c0 l rfl H0.out (by omega) (by omega) ?_; intro aA kA wA hJA hkA; replace hJ := hJA; have hSA : KO W0 wA := hJ.1; clear hJA hkA)
          | (refine step_copyJ hJ (by first | exact KO.refl _ | exact KO.alloc (KO.refl _) _ | exact KO.alloc (KO.alloc (KO.refl _) _) _ | exact KO.alloc (KO.alloc (KO.alloc (KO.refl _) _) _) _) rfl (.tmp 23) (.tmp 25) 23 rfl 3 ii _ 8 Tryd.underlying23 HII.out HY0.out HY1.out HY2.out rfl _ rfl .i64 a1 n1 c1 was rfl H1.out (by omega) (by omega) ?_; intro aB kB wB hJB hkB; replace hJ := hJB; have hSB : KO W0 wB := hJ.1; clear hJB hkB)
          | (refine step_copyJ hJ (by first | exact KO.refl _ | exact KO.alloc (KO.refl _) _ | exact KO.alloc (KO.alloc (KO.refl _) _) _ | exact KO.alloc (KO.alloc (KO.alloc (KO.refl _) _) _) _) rfl (.tmp 27) (.tmp 29) 23 rfl 3 ii _ 8 Tryd.underlying23 HII.out HY0.out HY1.out HY2.out rfl _ rfl .i64 a2 n2 c2 t rfl H2.out (by omega) (by omega) ?_; intro aC kC wC hJC hkC; replace hJ := hJC; have hSC : KO W0 wC := hJ.1; clear hJC hkC))
      all_goals
        refine NoPanic.normal ?_
        have HJ := hide hJ
        clear hJ m0 m1 m2 hK hKd hSA hSB hSC
        first
        | (go_wp2; go_meet; exact ⟨_, _, _, _, _, _, rfl, rfl, rfl, HJ.out.2 (.i32, aA, n0, kA, l) (by simp), HJ.out.2 (.i64, aB, n1, kB, was) (by simp), HJ.out.2 (.i64, aC, n2, kC, t) (by simp), HJ.out.1⟩)
        | (go_simp; go_step; (repeat apply Exists.intro); exact ⟨⟨_, _, _, _, _, _, rfl, rfl, rfl, HJ.out.2 (.i32, aA, n0, kA, l) (by simp), HJ.out.2 (.i64, aB, n1, kB, was) (by simp), HJ.out.2 (.i64, aC, n2, kC, t) (by simp), HJ.out.1⟩, rfl⟩)
    obtain ⟨aa, ca, ab, cb, ac, cc, rfl, rfl, rfl, ra, rb, rc, hkx⟩ := hcut
    generalize wc = W3 at *
    have HRA := hide ra
    have HRB := hide rb
    have HRC := hide rc
    have HK3 := hide hkx
    have HPA := hide (resolve_any aa ab ac n0 n1 n2 ca cb cc l was t lv s W3 HRA.out HRB.out HRC.out HF.out (HM.out.below HK3.out) b2)
    have HPB := hide (fun W (hk : KO W0 W) => dresolve_any a0 a1 a2 n0 n1 n2 c0 c1 c2 l was t lv s W (H0.out.below hk) (H1.out.below hk) (H2.out.below hk) HF.out (by omega))
    generalize Br.RA l was t lv s = AA at *
    obtain ⟨ax, al⟩ := AA
    clear ra rb rc hkx
    go_wp2_with fail
    refine HPA.out.mono ?_
    rintro e w5 ⟨ap, cp, rfl, hp5, hk5⟩
    have HP5 := hide hp5
    have HK5 := hide (KO.on HK3.out hk5)
    have HK35 := hide hk5
    simp only at hp5 ⊢
    have x0 := HM0.out w5 HK5.out
    have x1 := HM1.out w5 HK5.out
    have x2 := HM2.out w5 HK5.out
    clear hp5 hk5 HPA
    go_wp2_with fail
    refine (HPB.out w5 HK5.out).mono ?_
    rintro e w6 ⟨aq, cq, rfl, hp6, hk6⟩
    simp only at hp6 ⊢
    have HSA := hide (ints_yes ap aq al.length cp cq al w6 (HP5.out.below hk6) hp6)
    have HK6 := hide (KO.on HK5.out hk6)
    have HK36 := hide (KO.on HK35.out hk6)
    have HSB := hide (fun W (hk : KO w6 W) => runes_yes aa a0 n0 ca c0 l W (HRA.out.below (KO.on HK36.out hk)) (H0.out.below (KO.on HK6.out hk)))
    have HSC := hide (fun W (hk : KO w6 W) => ints_yes ab a1 n1 cb c1 was W (HRB.out.below (KO.on HK36.out hk)) (H1.out.below (KO.on HK6.out hk)))
    have HSD := hide (fun W (hk : KO w6 W) => ints_yes ac a2 n2 cc c2 t W (HRC.out.below (KO.on HK36.out hk)) (H2.out.below (KO.on HK6.out hk)))
    have HWK := hide (fun W (hk : KO w6 W) => works10_any W (HM.out.below (KO.on HK6.out hk)))
    generalize al.length = an at *
    clear hp6 hk6 HPB HP5 HK35 HK36 HK5 x0 x1 x2
    go_wp2_with fail
    refine HSA.out.mono ?_
    rintro e w7 ⟨rfl, hd7⟩
    have HK7 := hide (show KO w6 w7 from below_of_drewN hd7)
    have x0 := HM0.out w7 (KO.on HK6.out HK7.out)
    clear hd7 HSA
    go_wp2_with fail
    refine (HSB.out w7 HK7.out).mono ?_
    rintro e w8 ⟨rfl, hd8⟩
    have HK8 := hide (show KO w6 w8 from KO.on HK7.out (below_of_drewN hd8))
    have x1 := HM1.out w8 (KO.on HK6.out HK8.out)
    clear hd8 HSB x0
    go_wp2_with fail
    refine (HSC.out w8 HK8.out).mono ?_
    rintro e w9 ⟨rfl, hd9⟩
    have HK9 := hide (show KO w6 w9 from KO.on HK8.out (below_of_drewN hd9))
    have x2 := HM2.out w9 (KO.on HK6.out HK9.out)
    clear hd9 HSC x1
    go_wp2_with fail
    refine (HSD.out w9 HK9.out).mono ?_
    rintro e w10 ⟨rfl, hd10⟩
    have HK10 := hide (show KO w6 w10 from KO.on HK9.out (below_of_drewN hd10))
    clear hd10 HSD x2
    go_wp2_with fail
    refine (HWK.out w10 HK10.out).mono ?_
    rintro e w11 ⟨rfl, hk11⟩
    have HE := hide (KO.on HK0.out (KO.on HK6.out (KO.on HK10.out hk11)))
    clear hk11
    go_wp2
    go_ret
    exact ⟨rfl, HE.out⟩
end Go.Proofs.YtkkmifpdhcdkpaaDoor
