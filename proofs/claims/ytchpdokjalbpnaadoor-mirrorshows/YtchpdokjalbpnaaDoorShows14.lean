/- MirrorShows. -/
import Derived.Test.YtchpdokjalbpnaaDoorGt14
import Derived.Test.YtchpdokjalbpnaaDoorCopy
namespace Go.Proofs.YtchpdokjalbpnaaDoor
open Go.RowKit
set_option linter.unusedVariables false
set_option maxHeartbeats 1600000
set_option maxRecDepth 100000
theorem MirrorShows_walk (w : World) (hm : Marks w) (a0 : Option Addr) (n0 c0 : Nat) (l : List Int) (h0 : Row .i32 w a0 n0 c0 l) (f0 : ∀ x ∈ l, (Lit.int .i32 x).wf = true) (b0 : n0 * 4 ≤ 140737488351232)
    (a1 : Option Addr) (n1 c1 : Nat) (lv : List Int) (h1 : Row .i64 w a1 n1 c1 lv) (f1 : ∀ x ∈ lv, (Lit.int .i64 x).wf = true) (b1 : n1 * 8 ≤ 140737488351232) :
    Calls Tryd.prog 4 #[.slice a0 n0 c0, .slice a1 n1 c1] w fun e w' => e = .returned (.bool true) ∧ Below w.heap.size w w' := by
  have HW := hide (fun w' (hk : KO w w') => works14_any w' (hm.below hk))
  by_cases hbig : 70 < n1 ∨ 70 < n0
  · clear h0 h1 f0 f1
    rcases Classical.em (70 < n1) with q | q
    · have q1 : (70 : Int) < (n1 : Int) := by omega
      go_enter Tryd.func4, Tryd.ntmps4
      go_wp2_with fail
      refine (HW.out _ (KO.refl _)).mono ?_
      rintro e w1 ⟨rfl, hk1⟩
      have K1 := hide hk1
      clear hk1
      go_wp2
      go_ret
      exact ⟨rfl, K1.out⟩
    · have q1 : ¬ (70 : Int) < (n1 : Int) := by omega
      have q2 : (70 : Int) < (n0 : Int) := by omega
      go_enter Tryd.func4, Tryd.ntmps4
      go_wp2_with fail
      refine (HW.out _ (KO.refl _)).mono ?_
      rintro e w1 ⟨rfl, hk1⟩
      have K1 := hide hk1
      clear hk1
      go_wp2
      go_ret
      exact ⟨rfl, K1.out⟩
  · have q1 : ¬ (70 : Int) < (n1 : Int) := by omega
    have q2 : ¬ (70 : Int) < (n0 : Int) := by omega
    obtain ⟨S, E, hA⟩ := SA_some l lv
    obtain ⟨ii, hii, hy0, hy1, hy2⟩ := info_parts infoInt
    obtain ⟨ir, hir, hz0, hz1, hz2⟩ := info_parts infoRune14
    have HII : Hid (Tryd.prog.info? 3 = some ii) := hii
    have HY0 := hide hy0
    have HY1 := hide hy1
    have HY2 := hide hy2
    have HIR : Hid (Tryd.prog.info? 21 = some ir) := hir
    have HZ0 := hide hz0
    have HZ1 := hide hz1
    have HZ2 := hide hz2
    have HA := hide (fun (x y : Option Addr) (cx cy : Nat) (w' : World) (hx : Row .i32 w' x n0 cx l) (hy : Row .i64 w' y n1 cy lv) (hk : KO w w') => show_any x y n0 n1 cx cy l lv w' hx hy f0 (by omega) (by omega) n1 (by have := RR_le lv; have := h1.len; omega) (by omega) (hm.below hk) S E hA)
    have HB := hide (fun (w' : World) (hk : KO w w') => rshow_any a0 a1 n0 n1 c0 c1 l lv w' (h0.below hk) (h1.below hk) (by omega) S E hA)
    have H0 := hide h0
    have H1 := hide h1
    have OE := hide (owns_empty w 21 w.heap.size rfl)
    have KA := hide (KO.alloc (KO.refl w) (.cells #[] 21))
    have hEE : (E == E) = true := by simp
    clear h0 h1 f0 f1 hA hii hy0 hy1 hy2 hir hz0 hz1 hz2 hm hbig
    obtain ⟨N, hN⟩ : ∃ N, S.length = N := ⟨_, rfl⟩
    rw [hN] at HA HB
    have HN := hide hN
    clear hN
    go_enter Tryd.func4, Tryd.ntmps4
    go_wp2_with (at_builtin; refine wpList_append_row _ rfl (.tmp 20) (.tmp 21) 25 rfl w.heap.size 21 ir (.int .i32 0) 4 Tryd.underlying25 HIR.out HZ0.out HZ1.out HZ2.out rfl _ 0 [] rfl OE.out .i32 _ n0 c0 l rfl (H0.out.below KA.out) (by omega) (by omega) (by simp) ?_)
    intro v2 w2 ho2 hb2
    obtain ⟨ax, cx, ev, hx⟩ := row_of_owns ho2
    subst ev
    have K2 := hide (show KO w w2 from Below.trans KA.out hb2)
    have RX := hide hx
    have OE2 := hide (owns_empty w2 3 w2.heap.size rfl)
    have KA2 := hide (KO.alloc (KO.refl w2) (.cells #[] 3))
    clear ho2 hb2 hx KA OE
    go_wp2_with (at_builtin; refine wpList_append_row _ rfl (.tmp 23) (.tmp 24) 26 rfl w2.heap.size 3 ii (.int .i64 0) 8 Tryd.underlying26 HII.out HY0.out HY1.out HY2.out rfl _ 0 [] rfl OE2.out .i64 _ n1 c1 lv rfl (H1.out.below (KO.on K2.out KA2.out)) (by omega) (by omega) (by simp) ?_)
    intro v3 w3 ho3 hb3
    obtain ⟨ay, cy, ev, hy⟩ := row_of_owns ho3
    subst ev
    have K23 := hide (show KO w2 w3 from Below.trans KA2.out hb3)
    have K3 := hide (KO.on K2.out K23.out)
    have RX3 := hide (RX.out.below K23.out)
    have RY3 := hide hy
    clear ho3 hb3 hy KA2 OE2 RX
    have HA3 := hide (HA.out ax ay cx cy w3 RX3.out RY3.out K3.out)
    clear HA
    go_wp2_with fail
    refine HA3.out.mono ?_
    rintro e w4 ⟨a4, c4, rfl, hr4, hk4⟩
    have K34 := hide hk4
    have K4 := hide (KO.on K3.out hk4)
    have R4 := hide hr4
    have HB4 := hide (HB.out w4 (KO.on K3.out hk4))
    clear hr4 hk4 HA3 HB
    go_wp2_with fail
    refine HB4.out.mono ?_
    rintro e w5 ⟨a5, c5, rfl, hr5, hk5⟩
    have K35 := hide (KO.on K34.out hk5)
    have K5 := hide (KO.on K4.out hk5)
    have HI1 := hide (runes_yes a4 a5 N c4 c5 S w5 (R4.out.below hk5) hr5)
    clear hr5 hk5 HB4 R4
    go_wp2_with fail
    refine HI1.out.mono ?_
    rintro e w6 ⟨rfl, hd6⟩
    have K36 := hide (KO.on K35.out (below_of_drewN hd6))
    have K6 := hide (KO.on K5.out (below_of_drewN hd6))
    have HI2 := hide (runes_yes ax a0 n0 cx c0 l w6 (RX3.out.below K36.out) (H0.out.below K6.out))
    clear hd6 HI1
    go_wp2_with fail
    refine HI2.out.mono ?_
    rintro e w7 ⟨rfl, hd7⟩
    have K37 := hide (KO.on K36.out (below_of_drewN hd7))
    have K7 := hide (KO.on K6.out (below_of_drewN hd7))
    have HI3 := hide (ints_yes ay a1 n1 cy c1 lv w7 (RY3.out.below K37.out) (H1.out.below K7.out))
    clear hd7 HI2
    go_wp2_with fail
    refine HI3.out.mono ?_
    rintro e w8 ⟨rfl, hd8⟩
    have K8 := hide (KO.on K7.out (below_of_drewN hd8))
    clear hd8 HI3
    go_wp2_with fail
    refine (HW.out _ K8.out).mono ?_
    rintro e w9 ⟨rfl, hk9⟩
    have K9 := hide (KO.on K8.out hk9)
    clear hk9
    go_wp2
    go_ret
    exact ⟨rfl, K9.out⟩
end Go.Proofs.YtchpdokjalbpnaaDoor
