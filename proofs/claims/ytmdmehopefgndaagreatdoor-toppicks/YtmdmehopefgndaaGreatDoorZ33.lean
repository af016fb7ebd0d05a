import Derived.Test.YtmdmehopefgndaaGreatDoorZ24
import Derived.Test.YtmdmehopefgndaaGreatDoorZ32
import Derived.Test.YtmdmehopefgndaaGreatDoorZ26
import Derived.Test.YtmdmehopefgndaaGreatDoorZ22
import Derived.Deep.RegionHeld
import Derived.Test.YtmdmehopefgndaaGreatDoorZ12
import Derived.Test.YtmdmehopefgndaaGreatDoorZ07
import Derived.Laws.AppendOwn
/- Levels; works: the chapter's examples. -/
namespace Go.Proofs.YtmdmehopefgndaaGreatDoor
open Go.RowKit
set_option linter.unusedVariables false
set_option maxHeartbeats 1000000
set_option maxRecDepth 100000
theorem nlevels_bad (ao : Option Addr) (n cap : Nat) (lv : Int) (w : World) (hb : ¬ Ne.Lev lv) :
    Calls Tryz.prog 85 #[.slice ao n cap, .int .i64 lv] w fun e w' => e = .returned (.tuple #[.slice none 0 0, .int .i64 2]) ∧ w = w' := by
  have HL := hide (fun w' => isLevel_any lv w')
  rw [decide_eq_false hb] at HL
  clear hb
  go_enter Tryz.func85, Tryz.ntmps85
  go_wp2_with fail
  refine (HL.out _).mono ?_
  rintro e w' ⟨rfl, rfl⟩
  go_wp2
  go_ret2
  exact ⟨rfl, rfl⟩
/-- A slice of a call's own, if it is not empty. -/
def Fresh (w : World) (a1 : Option Addr) (m : Nat) : Prop := 0 < m → ∃ g, a1 = some ⟨g, 0, none⟩ ∧ w.heap.size ≤ g
theorem Fresh.nil (w : World) {a1 : Option Addr} : Fresh w a1 0 := fun h => absurd h (by decide)
theorem Fresh.some {w : World} {g : Nat} (h : w.heap.size ≤ g) (m : Nat) : Fresh w (some ⟨g, 0, none⟩) m := fun _ => ⟨g, rfl, h⟩
theorem nlevels_go (ao : Option Addr) (n cap : Nat) (lv : Int) (t : List Int) (w : World) (h : Row .i64 w ao n cap t) (hf : WF t) (hn : n * 8 ≤ 140737488351232) (hg : Ne.Lev lv) (L : List Int) (E : Int) (hA : (¬ Ne.Sided t ∧ L = [] ∧ E = 50) ∨ (Ne.Sided t ∧ L = Ne.LS t lv ∧ E = 0)) :
    Calls Tryz.prog 85 #[.slice ao n cap, .int .i64 lv] w fun e w' => ∃ a1 c1, e = .returned (.tuple #[.slice a1 L.length c1, .int .i64 E]) ∧ Row .i64 w' a1 L.length c1 L ∧ KO w w' ∧ Fresh w a1 L.length := by
  have HL := hide (fun w' => isLevel_any lv w')
  rw [decide_eq_true hg] at HL
  have hn2 : n ≤ 17592186044416 := by omega
  have HM := hide (nsides_any w)
  have H := hide h
  have HLEN := hide h.len
  have HF := hide hf
  have HNN := hide hn
  have HG := hide hg
  have HA := hide hA
  obtain ⟨cur, hcl, hmk⟩ := nmade_ints n hn
  have HCL := hide hcl
  have HMK := hide hmk
  clear hg h hn hf hcl hmk hA
  go_enter Tryz.func85, Tryz.ntmps85
  go_wp2_with fail
  refine (HL.out _).mono ?_
  rintro e w' ⟨rfl, rfl⟩
  go_wp2_with fail
  refine HM.out.mono ?_
  rintro e w1 ⟨rfl, hm, hk⟩
  have HSM := hide hm
  have HK := hide hk
  clear hm hk HM HL
  have hmk := HMK.out w1
  have HR1 := hide (H.out.below HK.out)
  have HO0 : Hid (OW w1.heap.size w1.heap.size n n (Ne.LL t lv 0) w1 (w1.alloc (.cells cur 3))) := hide ⟨by
    rw [Ne.LL_zero, HLEN.out]
    exact owns_block (cur := cur) (World.alloc_heap_new w1 _) HCL.out (by simp) (by unfold maxLen; have := HNN.out; omega) (Nat.le_refl _), (Below.refl _ _).alloc (Nat.le_refl _) _⟩
  go_wp2
  go_loopw [19] (fun v wr => ∃ j : Nat, v = .int .i64 (j : Int) ∧ j ≤ n ∧ Hid (∀ i, i < j → Ne.sd (t.getD i 0) ≠ 0) ∧ Hid (OW w1.heap.size w1.heap.size n n (Ne.LL t lv j) w1 wr)) (fun v _ => n - (intOf v).toNat)
  case atStart => exact ⟨0, rfl, Nat.zero_le _, hide (fun i hi => by omega), HO0⟩
  case round =>
    obtain ⟨j, rfl, hj, hall, hW⟩ := hrel
    by_cases hlt : j < n
    · have HTr := hide (HR1.out.below hW.out.bel)
      obtain ⟨b, off, rfl, hbl, hc⟩ := HTr.out.cells (by omega)
      have ck := hc j (by rw [HLEN.out]; exact hlt)
      have hin : (j : Int) < (n : Int) := by omega
      have HH := hide (has_any w.heap.size (t.getD j 0) (HF.out.at j) wr (HSM.out.below hW.out.bel))
      have HM := hide (meas_n0 n j hlt)
      have co := hW.out.cell hlt
      have fo := hW.out.own.frozenAt j
      generalize (Ne.LL t lv j).getD j 0 = old at co
      by_cases hs : Ne.sd (t.getD j 0) = 0
      · have hb : (Ne.sd (t.getD j 0) != 0) = false := by rw [hs]; rfl
        rw [hb] at HH
        have HE := hide (show L = [] ∧ E = 50 from by
          rcases HA.out with ⟨_, h1, h2⟩ | ⟨h1, _⟩
          · exact ⟨h1, h2⟩
          · exact absurd hs (h1 j (by rw [HLEN.out]; exact hlt)))
        have HKW := hide (KO.on HK.out hW.out.bel)
        clear hb hs hc hbl hall
        generalize t.getD j 0 = x at *
        go_wp2_with (go_at_call 97; refine HH.out.mono ?_; rintro e w' ⟨rfl, rfl⟩)
        obtain ⟨rfl, rfl⟩ := HE.out
        go_ret2
        exact ⟨none, 0, rfl, row_nil _ _, HKW.out, Fresh.nil _⟩
      · have hb : (Ne.sd (t.getD j 0) != 0) = true := bne_iff_ne.2 hs
        rw [hb] at HH
        have HA2 := hide (show ∀ i, i < j + 1 → Ne.sd (t.getD i 0) ≠ 0 from fun i hi => by
          by_cases e : i = j
          · subst e; exact hs
          · exact hall.out i (by omega))
        have HD := hide (fun w' => deeper_any (t.getD j 0) lv hs HG.out.1 w')
        have h2 := Ne.lv1_two (lv := lv) hs
        have hw : wrap64 (lv + Ne.dp (t.getD j 0) lv) = Ne.lv1 lv (t.getD j 0) := by
          have h1 := HG.out.1
          have h3 := HG.out.2
          unfold Ne.dp
          rw [show lv + (Ne.lv1 lv (t.getD j 0) - lv) = Ne.lv1 lv (t.getD j 0) by omega]
          exact w64_small (by omega) (by omega)
        have HN0 := hide (show OW w1.heap.size w1.heap.size n n (Ne.LL t lv (j + 1)) w1 (wr.setCell ⟨w1.heap.size, j, none⟩ (.int .i64 (Ne.lv1 lv (t.getD j 0)))) from by
            rw [← Ne.LL_succ]; exact hW.out.set j _)
        clear hb hs hc hbl hall h2
        generalize Ne.lv1 lv (t.getD j 0) = y at *
        generalize Ne.dp (t.getD j 0) lv = dd at *
        generalize t.getD j 0 = x at *
        go_wp2_with (first | (go_at_call 97; refine HH.out.mono ?_; rintro e w' ⟨rfl, rfl⟩) | (go_at_call 103; refine (HD.out _).mono ?_; rintro e w' ⟨rfl, rfl⟩))
        go_roundw
        case rel => exact ⟨j + 1, by go_num, by omega, HA2, HN0⟩
        case measure => exact HM.out
    · obtain rfl : j = n := by omega
      have hne : ¬ ((j : Int) < (j : Int)) := by omega
      have HE := hide (show L = Ne.LS t lv ∧ E = 0 from by
        rcases HA.out with ⟨h1, _⟩ | ⟨_, h1, h2⟩
        · exact absurd (fun i hi => hall.out i (by rw [HLEN.out] at hi; exact hi)) h1
        · exact ⟨h1, h2⟩)
      have HWW := hide (show Row .i64 wr (some ⟨w1.heap.size, 0, none⟩) j j (Ne.LS t lv) ∧ KO w wr ∧ (Ne.LS t lv).length = j ∧ w.heap.size ≤ w1.heap.size from by
        have h2 := hW.out.row
        rw [← HLEN.out, Ne.LL_all, HLEN.out] at h2
        exact ⟨h2, KO.on HK.out hW.out.bel, by rw [Ne.LS_len, HLEN.out], HK.out.size⟩)
      clear hW hlt hall
      go_wp2
      obtain ⟨rfl, rfl⟩ := HE.out
      go_ret2
      rw [HWW.out.2.2.1]
      exact ⟨_, j, rfl, HWW.out.1, HWW.out.2.1, Fresh.some HWW.out.2.2.2 _⟩
theorem nlevels_any (ao : Option Addr) (n cap : Nat) (lv : Int) (t : List Int) (w : World) (h : Row .i64 w ao n cap t) (hf : WF t) (hn : n * 8 ≤ 140737488351232) (L : List Int) (E : Int) (hA : Ne.AL t lv L E) :
    Calls Tryz.prog 85 #[.slice ao n cap, .int .i64 lv] w fun e w' => ∃ a1 c1, e = .returned (.tuple #[.slice a1 L.length c1, .int .i64 E]) ∧ Row .i64 w' a1 L.length c1 L ∧ KO w w' := by
  rcases hA with ⟨hg, rfl, rfl⟩ | ⟨hg, ho, rfl, rfl⟩ | ⟨hg, ho, rfl, rfl⟩
  · exact (nlevels_bad ao n cap lv w hg).mono fun e w' ⟨he, hk⟩ => ⟨none, 0, he, row_nil _ _, by rw [← hk]; exact KO.refl _⟩
  · exact (nlevels_go ao n cap lv t w h hf hn hg _ _ (.inl ⟨ho, rfl, rfl⟩)).mono fun e w' ⟨a, c, h1, h2, h3, _⟩ => ⟨a, c, h1, h2, h3⟩
  · exact (nlevels_go ao n cap lv t w h hf hn hg _ _ (.inr ⟨ho, rfl, rfl⟩)).mono fun e w' ⟨a, c, h1, h2, h3, _⟩ => ⟨a, c, h1, h2, h3⟩
theorem nresolve_any (ao : Option Addr) (n cap : Nat) (lv so eo : Int) (t : List Int) (w : World) (h : Row .i64 w ao n cap t) (hf : WF t) (hn : n * 8 ≤ 140737488351232) (L : List Int) (E : Int) (hA : Ne.AR t lv so eo L E) :
    Calls Tryz.prog 84 #[.slice ao n cap, .int .i64 lv, .int .i64 so, .int .i64 eo] w fun e w' => ∃ a1 c1, e = .returned (.tuple #[.slice a1 L.length c1, .int .i64 E]) ∧ Row .i64 w' a1 L.length c1 L ∧ KO w w' := by
  rcases hA with ⟨hg, rfl, rfl⟩ | ⟨hg, ho, rfl, rfl⟩ | ⟨hg, ho, rfl, rfl⟩
  · exact (nresolve_bad ao n cap lv so eo w hg).mono fun e w' ⟨he, hk⟩ => ⟨none, 0, he, row_nil _ _, by rw [← hk]; exact KO.refl _⟩
  · exact (nresolve_form ao n cap lv so eo t w h hf hn hg ho).mono fun e w' ⟨he, hk⟩ => ⟨none, 0, he, row_nil _ _, hk⟩
  · refine (nresolve_ok ao n cap lv so eo t w h hf hn hg ho).mono fun e w' ⟨g, he, hr, hk⟩ => ?_
    rw [Ne.RS_len, h.len]
    exact ⟨_, _, he, hr, hk⟩
theorem ex11a : Ne.AR [2, 13, 1] 1 1 1 [2, 2, 1] 0 := .inr (.inr ⟨⟨by decide, by decide, .inl rfl, .inl rfl⟩, Ne.ok_all (by decide), by decide, rfl⟩)
theorem ex11b : Ne.AL [1, 2, 4, 7] 0 [0, 1, 2, 2] 0 := .inr (.inr ⟨⟨by decide, by decide⟩, Ne.sided_all (by decide), by decide, rfl⟩)
end Go.Proofs.YtmdmehopefgndaaGreatDoor

/- The rules as a sequence applies them, and all of them. -/
namespace Go.Proofs.YtmdmehopefgndaaGreatDoor
open Go.RowKit
set_option linter.unusedVariables false
set_option maxHeartbeats 1000000
set_option maxRecDepth 100000
/-- A variable of the type sequence, and what its lists hold. -/
structure SV (w : World) (p : Nat) (ap : Option Addr) (np cp : Nat) (lv so eo : Int) (an : Option Addr) (n cn : Nat) (at' : Option Addr) (ct : Nat) (tx ty : List Int) : Prop where
  hp : w.heap[p]? = some (.cells #[.slice ap np cp, .int .i64 lv, .int .i64 so, .int .i64 eo, .slice an n cn, .slice at' n ct] 92 (0, 0))
  rn : Row .i32 w an n cn tx
  rt : Row .i64 w at' n ct ty
section
variable {w w' : World} {p : Nat} {ap : Option Addr} {np cp : Nat} {lv so eo : Int} {an : Option Addr} {n cn : Nat} {at' : Option Addr} {ct : Nat} {tx ty : List Int}
theorem SV.keep (h : SV w p ap np cp lv so eo an n cn at' ct tx ty) (hk : KO w w') : SV w' p ap np cp lv so eo an n cn at' ct tx ty :=
  ⟨(Below.block hk p (Array.getElem?_eq_some_iff.1 h.hp).1).trans h.hp, h.rn.below hk, h.rt.below hk⟩
theorem SV.c (h : SV w p ap np cp lv so eo an n cn at' ct tx ty) : w.cell? ⟨p, 0, none⟩ = some (.slice ap np cp) ∧ w.cell? ⟨p, 1, none⟩ = some (.int .i64 lv) ∧ w.cell? ⟨p, 2, none⟩ = some (.int .i64 so) ∧ w.cell? ⟨p, 3, none⟩ = some (.int .i64 eo) ∧ w.cell? ⟨p, 4, none⟩ = some (.slice an n cn) ∧ w.cell? ⟨p, 5, none⟩ = some (.slice at' n ct) := by
  refine ⟨?_, ?_, ?_, ?_, ?_, ?_⟩ <;> simp [World.cell?, h.hp]
/-- A slice that a rule makes. -/
def RW (w : World) (n : Nat) (L : List Int) (e : Ending) (w' : World) : Prop := ∃ a1 c1, e = .returned (.tuple #[.slice a1 n c1, .int .i64 0]) ∧ Row .i64 w' a1 n c1 L ∧ KO w w'
theorem sweak_any (h : SV w p ap np cp lv so eo an n cn at' ct tx ty) (a0 : Option Addr) (m c0 : Nat) (t : List Int) (h0 : Row .i64 w a0 m c0 t) (hn : m ≤ 100000) (hs : We.Side so) (ho : We.Ok t) :
    Calls Tryz.prog 74 #[.pointer (some ⟨p, 0, none⟩), .slice a0 m c0] w (RW w m (Rn.T9 t so)) := by
  obtain ⟨_, _, q2, _, _, _⟩ := h.c
  have HR := hide (wresolve_ok a0 m c0 so t w h0 (by omega) hs ho)
  clear h h0 hs ho
  go_enter Tryz.func74, Tryz.ntmps74
  go_wp2_with fail
  refine HR.out.mono ?_
  rintro e w1 ⟨g, rfl, hN⟩
  have HN := hide (show Row .i64 w1 (some ⟨g, 0, none⟩) m m (Rn.T9 t so) ∧ KO w w1 from ⟨hN.row, hN.bel⟩)
  clear hN
  go_wp2
  go_ret2
  exact ⟨_, _, rfl, HN.out.1, HN.out.2⟩
theorem sbrackets_any (h : SV w p ap np cp lv so eo an n cn at' ct tx ty) (a0 : Option Addr) (c0 : Nat) (t : List Int) (h0 : Row .i64 w a0 n c0 t) (hn : n ≤ 100000) (hf : ∀ x ∈ tx, (Lit.int .i32 x).wf = true) (hm : Marks w) (L : List Int) (hA : Br.RA tx ty t lv so = (0, L)) (hL : L.length = n) :
    Calls Tryz.prog 75 #[.pointer (some ⟨p, 0, none⟩), .slice a0 n c0] w (RW w n L) := by
  obtain ⟨_, q1, q2, _, q4, q5⟩ := h.c
  have HR := hide (fun W (hk : KO w W) => resolve_any an at' a0 n n n cn ct c0 tx ty t lv so W (h.rn.below hk) (h.rt.below hk) (h0.below hk) hf (hm.below hk) (by omega))
  rw [hA] at HR
  unfold R10 at HR
  simp only [hL] at HR
  have g1 : ∀ w', KO w w' → w'.cell? ⟨p, 1, none⟩ = some (.int .i64 lv) := fun w' hk => (h.keep hk).c.2.1
  have g2 : ∀ w', KO w w' → w'.cell? ⟨p, 2, none⟩ = some (.int .i64 so) := fun w' hk => (h.keep hk).c.2.2.1
  have g4 : ∀ w', KO w w' → w'.cell? ⟨p, 4, none⟩ = some (.slice an n cn) := fun w' hk => (h.keep hk).c.2.2.2.2.1
  have g5 : ∀ w', KO w w' → w'.cell? ⟨p, 5, none⟩ = some (.slice at' n ct) := fun w' hk => (h.keep hk).c.2.2.2.2.2
  have hK : KO w w := Below.refl _ _
  clear h h0 hf hm hA hL q1 q2 q4 q5
  go_enter Tryz.func75, Tryz.ntmps75
  go_wp2
  refine wp_region_noPanic ?_
  go_region_held (fun w' => KO w w') (first | exact KO.drew hK | assumption)
    (first | (go_at_call 83; refine (HR.out _ (by assumption)).mono ?_; rintro e w1 ⟨a1, c1, rfl, hr, hk1⟩; have hk2 : KO w w1 := KO.on (by assumption) hk1))
  all_goals
    refine NoPanic.normal ?_
    have HB := hide (And.intro hr hk2)
    clear hK hk1 hk2 hr g1 g2 g4 g5
    go_wp2
    go_ret2
    exact ⟨_, _, rfl, HB.out.1, HB.out.2⟩
theorem sneutral_any (h : SV w p ap np cp lv so eo an n cn at' ct tx ty) (a0 : Option Addr) (m c0 : Nat) (t : List Int) (h0 : Row .i64 w a0 m c0 t) (hf : WF t) (hn : m ≤ 100000) (L : List Int) (hA : Ne.AR t lv so eo L 0) (hL : L.length = m) :
    Calls Tryz.prog 76 #[.pointer (some ⟨p, 0, none⟩), .slice a0 m c0] w (RW w m L) := by
  obtain ⟨_, q1, q2, q3, _, _⟩ := h.c
  have HR := hide (fun W (hk : KO w W) => nresolve_any a0 m c0 lv so eo t W (h0.below hk) hf (by omega) L 0 hA)
  simp only [hL] at HR
  have g1 : ∀ w', KO w w' → w'.cell? ⟨p, 1, none⟩ = some (.int .i64 lv) := fun w' hk => (h.keep hk).c.2.1
  have g2 : ∀ w', KO w w' → w'.cell? ⟨p, 2, none⟩ = some (.int .i64 so) := fun w' hk => (h.keep hk).c.2.2.1
  have g3 : ∀ w', KO w w' → w'.cell? ⟨p, 3, none⟩ = some (.int .i64 eo) := fun w' hk => (h.keep hk).c.2.2.2.1
  have hK : KO w w := Below.refl _ _
  clear h h0 hf hA hL q1 q2 q3
  go_enter Tryz.func76, Tryz.ntmps76
  go_wp2
  refine wp_region_noPanic ?_
  go_region_held (fun w' => KO w w') (first | exact KO.drew hK | assumption)
    (first | (go_at_call 84; refine (HR.out _ (by assumption)).mono ?_; rintro e w1 ⟨a1, c1, rfl, hr, hk1⟩; have hk2 : KO w w1 := KO.on (by assumption) hk1))
  all_goals
    refine NoPanic.normal ?_
    have HB := hide (And.intro hr hk2)
    clear hK hk1 hk2 hr g1 g2 g3
    go_wp2
    go_ret2
    exact ⟨_, _, rfl, HB.out.1, HB.out.2⟩
theorem simplicit_any (h : SV w p ap np cp lv so eo an n cn at' ct tx ty) (a0 : Option Addr) (m c0 : Nat) (t : List Int) (h0 : Row .i64 w a0 m c0 t) (hf : WF t) (hn : m ≤ 100000) (hg : Ne.Lev lv) (ho : Ne.Sided t) :
    Calls Tryz.prog 77 #[.pointer (some ⟨p, 0, none⟩), .slice a0 m c0] w fun e w' => ∃ a1 c1, e = .returned (.tuple #[.slice a1 m c1, .int .i64 0]) ∧ Row .i64 w' a1 m c1 (Ne.LS t lv) ∧ KO w w' ∧ Fresh w a1 m := by
  obtain ⟨_, q1, _, _, _, _⟩ := h.c
  have HR := hide (nlevels_go a0 m c0 lv t w h0 hf (by omega) hg (Ne.LS t lv) 0 (.inr ⟨ho, rfl, rfl⟩))
  rw [show (Ne.LS t lv).length = m from by rw [Ne.LS_len, h0.len]] at HR
  clear h h0 hf hg ho
  go_enter Tryz.func77, Tryz.ntmps77
  go_wp2_with fail
  refine HR.out.mono ?_
  rintro e w1 ⟨a1, c1, rfl, hr, hk, hfr⟩
  have HN := hide (And.intro hr (And.intro hk hfr))
  clear hr hk hfr
  go_wp2
  go_ret2
  exact ⟨_, _, rfl, HN.out.1, HN.out.2.1, HN.out.2.2⟩
end
end Go.Proofs.YtmdmehopefgndaaGreatDoor

/- All rules, one behind the other. -/
namespace Go.Proofs.YtmdmehopefgndaaGreatDoor
open Go.RowKit
set_option linter.unusedVariables false
set_option maxHeartbeats 1000000
set_option maxRecDepth 100000
/-- The rules, as values. -/
def rfv (p : Nat) : Array Value := #[.func (.func 74) #[.pointer (some ⟨p, 0, none⟩)] #[], .func (.func 75) #[.pointer (some ⟨p, 0, none⟩)] #[], .func (.func 76) #[.pointer (some ⟨p, 0, none⟩)] #[], .func (.func 77) #[.pointer (some ⟨p, 0, none⟩)] #[]]
theorem rfv_one (p : Nat) : (rfv p).all (·.oneCell') = true := by simp [rfv, Value.oneCell']
theorem ruleInfo : (Tryz.prog.info? 121).map (·.size) = some 4 := by kernel_rfl
/-- A value of one cell into a block that is known whole. -/
theorem store_one {P : Program} {W : World} {g j : Nat} {cs : Array Value} {t : TypeId} {v : Value} (hv : v.oneCell' = true) (h : W.heap[g]? = some (.cells cs t (0, 0))) (hj : j < cs.size) : (store ⟨g, j, none⟩ v).run P W = .ok () (W.setCell ⟨g, j, none⟩ v) := by
  have hc : W.cell? ⟨g, j, none⟩ = some cs[j] := by simp [World.cell?, h, hj]
  have hf : W.frozen? ⟨g, j, none⟩ = false := by simp [World.frozen?, h]
  rw [run_store _ _ _ _ _ hv, hc, hf]
  rfl
theorem rules_any (p : Nat) (w : World) : Calls Tryz.prog 62 #[.pointer (some ⟨p, 0, none⟩)] w fun e w' => e = .returned (.agg (rfv p)) ∧ KO w w' := by
  have h0 : (w.alloc (.cells #[.nilFunc, .nilFunc, .nilFunc, .nilFunc] 121)).heap[w.heap.size]? = some (.cells #[.nilFunc, .nilFunc, .nilFunc, .nilFunc] 121 (0, 0)) := heap_alloc_last w _
  have k0 : Below w.heap.size w (w.alloc (.cells #[.nilFunc, .nilFunc, .nilFunc, .nilFunc] 121)) := KO.alloc (KO.refl _) _
  have s1 := store_one (P := Tryz.prog) (j := 0) (v := .func (.func 74) #[.pointer (some ⟨p, 0, none⟩)] #[]) rfl h0 (by decide)
  have h1 := sset_heap (j := 0) h0 (.func (.func 74) #[.pointer (some ⟨p, 0, none⟩)] #[])
  have k1 := k0.setCell (p := ⟨w.heap.size, 0, none⟩) (Nat.le_refl _) (.func (.func 74) #[.pointer (some ⟨p, 0, none⟩)] #[])
  generalize (w.alloc (.cells #[.nilFunc, .nilFunc, .nilFunc, .nilFunc] 121)).setCell _ _ = W1 at s1 h1 k1
  have s2 := store_one (P := Tryz.prog) (j := 1) (v := .func (.func 75) #[.pointer (some ⟨p, 0, none⟩)] #[]) rfl h1 (by simp)
  have h2 := sset_heap (j := 1) h1 (.func (.func 75) #[.pointer (some ⟨p, 0, none⟩)] #[])
  have k2 := k1.setCell (p := ⟨w.heap.size, 1, none⟩) (Nat.le_refl _) (.func (.func 75) #[.pointer (some ⟨p, 0, none⟩)] #[])
  generalize W1.setCell _ _ = W2 at s2 h2 k2
  have s3 := store_one (P := Tryz.prog) (j := 2) (v := .func (.func 76) #[.pointer (some ⟨p, 0, none⟩)] #[]) rfl h2 (by simp)
  have h3 := sset_heap (j := 2) h2 (.func (.func 76) #[.pointer (some ⟨p, 0, none⟩)] #[])
  have k3 := k2.setCell (p := ⟨w.heap.size, 2, none⟩) (Nat.le_refl _) (.func (.func 76) #[.pointer (some ⟨p, 0, none⟩)] #[])
  generalize W2.setCell _ _ = W3 at s3 h3 k3
  have s4 := store_one (P := Tryz.prog) (j := 3) (v := .func (.func 77) #[.pointer (some ⟨p, 0, none⟩)] #[]) rfl h3 (by simp)
  have h4 := sset_heap (j := 3) h3 (.func (.func 77) #[.pointer (some ⟨p, 0, none⟩)] #[])
  have k4 := k3.setCell (p := ⟨w.heap.size, 3, none⟩) (Nat.le_refl _) (.func (.func 77) #[.pointer (some ⟨p, 0, none⟩)] #[])
  generalize W3.setCell _ _ = W4 at s4 h4 k4
  have HE := hide (run_loadVar_row (P := Tryz.prog) W4 w.heap.size 121 121 (rfv p) (0, 0) _ (show W4.heap[w.heap.size]? = some (Obj.cells (rfv p) 121 (0, 0)) from h4) Tryz.underlying121 rfl ruleInfo)
  have HK := hide k4
  clear h0 k0 h1 k1 h2 k2 h3 k3 h4 k4
  go_enter Tryz.func62, Tryz.ntmps62
  go_wp2
  exact bodyPost_ret (sresults1 Tryz.results62 _ _ _ w.heap.size _ rfl HE.out) rfl ⟨rfl, HK.out⟩
end Go.Proofs.YtmdmehopefgndaaGreatDoor

/- All rules of a sequence. -/
namespace Go.Proofs.YtmdmehopefgndaaGreatDoor
open Go.RowKit
set_option linter.unusedVariables false
set_option maxHeartbeats 1000000
set_option maxRecDepth 100000
theorem ruleE : (Tryz.prog.info? 120).map (·.size) = some 1 := by kernel_rfl
theorem rule0 (p : Nat) (w : World) : (Instr.index 121 (.agg (rfv p)) (.int .i64 0)).run Tryz.prog w = .ok (.func (.func 74) #[.pointer (some ⟨p, 0, none⟩)] #[]) w := by kernel_rfl
theorem rule1 (p : Nat) (w : World) : (Instr.index 121 (.agg (rfv p)) (.int .i64 1)).run Tryz.prog w = .ok (.func (.func 75) #[.pointer (some ⟨p, 0, none⟩)] #[]) w := by kernel_rfl
theorem rule2 (p : Nat) (w : World) : (Instr.index 121 (.agg (rfv p)) (.int .i64 2)).run Tryz.prog w = .ok (.func (.func 76) #[.pointer (some ⟨p, 0, none⟩)] #[]) w := by kernel_rfl
theorem rule3 (p : Nat) (w : World) : (Instr.index 121 (.agg (rfv p)) (.int .i64 3)).run Tryz.prog w = .ok (.func (.func 77) #[.pointer (some ⟨p, 0, none⟩)] #[]) w := by kernel_rfl
theorem slevels_any {w : World} {p : Nat} {ap : Option Addr} {np cp : Nat} {lv so eo : Int} {an : Option Addr} {n cn : Nat} {at' : Option Addr} {ct : Nat} {tx ty : List Int} (h : SV w p ap np cp lv so eo an n cn at' ct tx ty) (hg : Rn.G tx ty lv so eo) (hf : ∀ x ∈ tx, (Lit.int .i32 x).wf = true) (hm : Marks w) (hn : n ≤ 100000) :
    Calls Tryz.prog 42 #[.pointer (some ⟨p, 0, none⟩)] w fun e w' => ∃ a1 c1, e = .returned (.tuple #[.slice a1 n c1, .int .i64 0]) ∧ Row .i64 w' a1 n c1 (Rn.F13 tx ty lv so eo) ∧ KO w w' ∧ Fresh w a1 n := by
  have hty := h.rt.len
  have HRU := hide (fun W => rules_any p W)
  have HW := hide (fun W (hk : KO w W) => sweak_any (h.keep hk) at' n ct ty (h.rt.below hk) hn hg.so hg.ok)
  have HB := hide (fun W (hk : KO w W) a0 c0 (h0 : Row .i64 W a0 n c0 (Rn.T9 ty so)) => sbrackets_any (h.keep hk) a0 c0 _ h0 hn hf (hm.below hk) _ hg.ra (by rw [Rn.T10_len]; exact hty))
  have HN := hide (fun W (hk : KO w W) a0 c0 (h0 : Row .i64 W a0 n c0 (Rn.T10 Br.PP tx ty lv so)) => sneutral_any (h.keep hk) a0 n c0 _ h0 hg.wf10 hn _ hg.ar (by rw [Ne.RS_len, Rn.T10_len]; exact hty))
  have HI := hide (fun W (hk : KO w W) a0 c0 (h0 : Row .i64 W a0 n c0 (Ne.RS (Rn.T10 Br.PP tx ty lv so) lv so eo)) => simplicit_any (h.keep hk) a0 n c0 _ h0 hg.wf11 hn ⟨hg.lv0, by have := hg.lv1; omega⟩ (Rn.rs_sided _ _ _ _ hg.so))
  have q5 := h.c.2.2.2.2.2
  have r0 := rule0 p
  have r1 := rule1 p
  have r2 := rule2 p
  have r3 := rule3 p
  have HF13 := hide (show Rn.F13 tx ty lv so eo = Ne.LS (Ne.RS (Rn.T10 Br.PP tx ty lv so) lv so eo) lv from rfl)
  rw [HF13.out]
  generalize hL12 : Ne.LS (Ne.RS (Rn.T10 Br.PP tx ty lv so) lv so eo) lv = L12 at *
  generalize Ne.RS (Rn.T10 Br.PP tx ty lv so) lv so eo = L11 at *
  generalize Rn.T10 Br.PP tx ty lv so = L10 at *
  generalize Rn.T9 ty so = L9 at *
  clear h hg hf hm hty hL12 HF13
  go_enter Tryz.func42, Tryz.ntmps42
  go_wp2_with fail
  refine (HRU.out w).mono ?_
  rintro e w1 ⟨rfl, hk1⟩
  have HW1 := hide (HW.out w1 hk1)
  have HK1 := hide hk1
  clear hk1 HW HRU
  go_wp2
  refine wp_loop_rounds 5 ?_
  rw [rounds_succ]
  go_wp2_with fail
  refine HW1.out.mono ?_
  rintro e w2 ⟨a2, c2, rfl, hr2, hk2⟩
  have HK2 := hide (KO.on HK1.out hk2)
  have HB2 := hide (HB.out w2 HK2.out a2 c2 hr2)
  clear hr2 hk2 HW1 HB HK1
  go_wp2
  rw [rounds_succ]
  go_wp2_with fail
  refine HB2.out.mono ?_
  rintro e w3 ⟨a3, c3, rfl, hr3, hk3⟩
  have HK3 := hide (KO.on HK2.out hk3)
  have HN3 := hide (HN.out w3 HK3.out a3 c3 hr3)
  clear hr3 hk3 HB2 HN HK2
  go_wp2
  rw [rounds_succ]
  go_wp2_with fail
  refine HN3.out.mono ?_
  rintro e w4 ⟨a4, c4, rfl, hr4, hk4⟩
  have HK4 := hide (KO.on HK3.out hk4)
  have HI4 := hide (HI.out w4 HK4.out a4 c4 hr4)
  clear hr4 hk4 HN3 HI HK3
  go_wp2
  rw [rounds_succ]
  go_wp2_with fail
  refine HI4.out.mono ?_
  rintro e w5 ⟨a5, c5, rfl, hr5, hk5, hf5⟩
  have HR5 := hide (show Row .i64 w5 a5 n c5 L12 ∧ KO w w5 ∧ Fresh w a5 n from ⟨hr5, KO.on HK4.out hk5, fun h0 => by
    obtain ⟨g, e1, e2⟩ := hf5 h0
    exact ⟨g, e1, Nat.le_trans HK4.out.size e2⟩⟩)
  clear hr5 hk5 hf5 HI4 HK4
  go_wp2
  rw [rounds_succ]
  go_wp2
  go_ret2
  exact ⟨_, _, rfl, HR5.out.1, HR5.out.2.1, HR5.out.2.2⟩
end Go.Proofs.YtmdmehopefgndaaGreatDoor

/- Two rows of numbers that a call makes beside one another, in whatever order: 'append(append([]int{}, p...), q...)' twice in one statement that draws its order. -/
namespace Go.Proofs.YtmdmehopefgndaaGreatDoor
open Go.RowKit
set_option linter.unusedVariables false
structure J2 (e : TypeId) (w0 w : World) (va : Value) (na : Nat) (xa : List Int) (vb : Value) (nb : Nat) (xb : List Int) : Prop where
  oa : w.ownsRow w0.heap.size e 1 va na (xa.map (Value.int .i64))
  ob : w.ownsRow w0.heap.size e 1 vb nb (xb.map (Value.int .i64))
  ne : ∀ g, va.ownBlock = some g → ¬ vb.ownBlock = some g
  bel : Below w0.heap.size w0 w
section
variable {e : TypeId} {w0 w : World} {va : Value} {na : Nat} {xa : List Int} {vb : Value} {nb : Nat} {xb : List Int}
theorem J2.symm (h : J2 e w0 w va na xa vb nb xb) : J2 e w0 w vb nb xb va na xa := ⟨h.ob, h.oa, fun g h1 h2 => h.ne g h2 h1, h.bel⟩
theorem J2.below (h : J2 e w0 w va na xa vb nb xb) {w' : World} (hb : Below w.heap.size w w') : J2 e w0 w' va na xa vb nb xb := ⟨owns_below h.oa hb, owns_below h.ob hb, h.ne, KO.on h.bel hb⟩
theorem J2.begin (w : World) : J2 e w w (.slice none 0 0) 0 [] (.slice none 0 0) 0 [] := ⟨World.ownsRow_nil _ _ _ _, World.ownsRow_nil _ _ _ _, fun g h => by simp [Value.ownBlock] at h, Below.refl _ _⟩
/-- Behind an append to one of them. -/
theorem J2.step (h : J2 e w0 w va na xa vb nb xb) {w' : World} {v' : Value} {n' : Nat} {xs : List Int} (ho : w'.ownsRow w0.heap.size e 1 v' n' (xs.map (Value.int .i64))) (hg : w.grownBy w' va.ownBlock) (hb : v'.ownBlock = va.ownBlock ∨ v'.ownBlock = some w.heap.size) : J2 e w0 w' v' n' xs vb nb xb := by
  refine ⟨ho, ?_, ?_, ?_⟩
  · refine h.ob.kept hg ?_
    cases hv : vb.ownBlock with
    | none => exact .inl rfl
    | some g => exact .inr (fun h1 => h.ne g h1.symm hv)
  · intro g h1 h2
    rcases hb with hb | hb
    · rw [hb] at h1; exact h.ne g h1 h2
    · rw [hb] at h1
      have := (h.ob.lt g h2).2
      simp at h1
      omega
  · exact h.bel.grown hg h.bel.size (fun j hj => (h.oa.lt j hj).1)
end
/-- An append, and where its row lies. -/
theorem run_append_at {P : Program} (w : World) (base : Nat) (t ty e : TypeId) (i : TypeInfo) (z : Value) (ht : P.underlying t = some (.slice e)) (hi : P.info? e = some i) (hz : i.zero = some z) (hsize : i.size = 1) (hby : i.bytes = 8) (hzs : z.cells.size = 1)
    (g n cap : Nat) (xs : List Int) (hown : w.ownsRow base e 1 (.slice (some ⟨g, 0, none⟩) n cap) n (xs.map (Value.int .i64)))
    (ad : Addr) (m c : Nat) (zs : List Int) (hrow : Row .i64 w (some ad) m c zs) (hm : 0 < m) (hn : (n + m) * 8 ≤ 140737488355328) (hbase : base ≤ w.heap.size) :
    ∃ v' w', (Builtin.append_ #[t, t] ty #[.slice (some ⟨g, 0, none⟩) n cap, .slice (some ad) m c]).run P w = .ok v' w' ∧ w'.ownsRow base e 1 v' (n + m) ((xs ++ zs).map (Value.int .i64)) ∧ w.grownBy w' (some g) ∧ (v'.ownBlock = some g ∨ v'.ownBlock = some w.heap.size) := by
  have hnews : ∀ j u, (zs.map (Value.int .i64))[j]? = some u → w.cell? (ad.add j) = some u := by
    intro j u hj
    have hjl : j < zs.length := by
      have := (List.getElem?_eq_some_iff.1 hj).1
      simpa using this
    have hl := hrow.len
    obtain ⟨b, off, e1, _, hc⟩ := hrow.cells (by omega)
    simp only [Option.some.injEq] at e1
    subst e1
    have hadd : (⟨b, off, none⟩ : Addr).add j = ⟨b, off + j, none⟩ := by unfold Addr.add; split <;> simp_all
    rw [hadd, hc j hjl]
    rw [List.getElem?_map, List.getElem?_eq_getElem hjl] at hj
    simp only [Option.map_some, Option.some.injEq] at hj
    rw [← hj]
    simp [List.getD, List.getElem?_eq_getElem hjl]
  have hlen : (zs.map (Value.int .i64)).length = m * 1 := by simp [hrow.len]
  obtain ⟨v', w', hr, h2, h3, _⟩ := run_append_own (P := P) w base t ty e i z 1 8 ht hi hz hsize hby hzs (by decide) (.slice (some ⟨g, 0, none⟩) n cap) n _ hown ad m c (zs.map (Value.int .i64)) hlen hnews (ints_oneCell .i64 zs) (by unfold maxLen; omega) (by omega) hbase
  rw [← List.map_append] at h2
  refine ⟨v', w', hr, h2, h3, ?_⟩
  have ho := hown
  rcases ho.2 with ⟨h0, _⟩ | ⟨g', cap', cur, hv, hbg, hg, hnc, hcm, hcs, htake⟩
  · cases h0
  · cases hv
    by_cases hroom : n + m ≤ cap
    · have hfit : n * i.size + (zs.map (Value.int .i64)).length ≤ cur.size := by rw [hsize, hcs]; simp [hrow.len]; omega
      have hq := run_append_room (P := P) w t ty e i ht hi g n cap cur hg ad m c (zs.map (Value.int .i64)) (by rw [hsize]; exact hlen) hnews (ints_oneCell .i64 zs) hroom hfit
      rw [hq] at hr
      simp only [Result.ok.injEq] at hr
      left
      rw [← hr.1]
      rfl
    · have holds : ∀ j x, (xs.map (Value.int .i64))[j]? = some x → w.cell? ((⟨g, 0, none⟩ : Addr).add j) = some x := hown.cells (g := g) rfl
      have hq := run_append_grow (P := P) w t ty e i z ht hi hz ⟨g, 0, none⟩ n cap (xs.map (Value.int .i64)) (by rw [hsize]; exact hown.1) holds ad m c (zs.map (Value.int .i64)) (by rw [hsize]; exact hlen) hnews (by omega) (by omega) (growslice_fits (by omega) (by rw [hby]; omega))
      rw [hq] at hr
      simp only [Result.ok.injEq] at hr
      right
      rw [← hr.1]
      rfl
/-- An append to a slice without room, of whose block nothing is known. -/
theorem run_append_first {P : Program} (w : World) (t ty e : TypeId) (i : TypeInfo) (z : Value) (ht : P.underlying t = some (.slice e)) (hi : P.info? e = some i) (hz : i.zero = some z) (hsize : i.size = 1) (hby : i.bytes = 8) (hzs : z.cells.size = 1)
    (ag : Addr) (ad : Addr) (m c : Nat) (zs : List Int) (hrow : Row .i64 w (some ad) m c zs) (hm : 0 < m) (hn : m ≤ 100000) (base : Nat) (hbase : base ≤ w.heap.size) :
    ∃ v' w', (Builtin.append_ #[t, t] ty #[.slice (some ag) 0 0, .slice (some ad) m c]).run P w = .ok v' w' ∧ w'.ownsRow base e 1 v' m (zs.map (Value.int .i64)) ∧ w.grownBy w' none ∧ v'.ownBlock = some w.heap.size := by
  have hnews : ∀ j u, (zs.map (Value.int .i64))[j]? = some u → w.cell? (ad.add j) = some u := by
    intro j u hj
    have hjl : j < zs.length := by
      have := (List.getElem?_eq_some_iff.1 hj).1
      simpa using this
    have hl := hrow.len
    obtain ⟨b, off, e1, _, hc⟩ := hrow.cells (by omega)
    simp only [Option.some.injEq] at e1
    subst e1
    have hadd : (⟨b, off, none⟩ : Addr).add j = ⟨b, off + j, none⟩ := by unfold Addr.add; split <;> simp_all
    rw [hadd, hc j hjl]
    rw [List.getElem?_map, List.getElem?_eq_getElem hjl] at hj
    simp only [Option.map_some, Option.some.injEq] at hj
    rw [← hj]
    simp [List.getD, List.getElem?_eq_getElem hjl]
  have hlen : (zs.map (Value.int .i64)).length = m * 1 := by simp [hrow.len]
  have hq := run_append_grow (P := P) w t ty e i z ht hi hz ag 0 0 [] (by simp) (by simp) ad m c (zs.map (Value.int .i64)) (by rw [hsize]; exact hlen) hnews (by omega) (by omega) (growslice_fits (by omega) (by rw [hby]; omega))
  have hge := grownCap_ge w (0 + m) 0 e
  have hml : grownCap w (0 + m) 0 e ≤ maxLen := grownCap_le_maxLen w (0 + m) 0 e (by unfold maxLen; omega)
  refine ⟨_, _, hq, ⟨by simp [hrow.len], .inr ⟨w.heap.size, grownCap w (0 + m) 0 e, _, by simp, hbase, heap_alloc_new w.drew _, by omega, hml, ?_, ?_⟩⟩, ⟨rfl, rfl, rfl, by simp, fun k hk _ => Below.heap_alloc w.drew _ k hk⟩, rfl⟩
  · simp only [Array.size_append, List.size_toArray, size_zeroCells, hzs, List.length_map, hrow.len, List.length_nil]
    omega
  · simp only [Array.toList_append, List.nil_append]
    rw [List.take_append_of_le_length (by simp [hrow.len])]
    rw [List.take_of_length_le (by simp [hrow.len])]
section
variable {P : Program} {ops : Array Oper} {o : Oper} {a : Act} {K : Act → World → Prop} {Q : Exit → Act → World → Prop} {E : Prop}
theorem step_first {e : TypeId} {w0 w : World} {vb : Value} {nb : Nat} {xb : List Int} (hJ : J2 e w0 w (.slice none 0 0) 0 [] vb nb xb) (hgd : o.guard = none) (s x : Operand) (t : TypeId)
    (ho : o.op = .call { callee := .builtin .append, args := #[s, x], argTypes := #[t, t] }) (i : TypeInfo) (z : Value) (ht : P.underlying t = some (.slice e)) (hi : P.info? e = some i) (hz : i.zero = some z) (hsize : i.size = 1) (hby : i.bytes = 8) (hzs : z.cells.size = 1)
    (ag ad : Addr) (hs : a.eval s = .slice (some ag) 0 0) (m c : Nat) (zs : List Int) (hx : a.eval x = .slice (some ad) m c) (hrow : Row .i64 w0 (some ad) m c zs) (hm : 0 < m) (hn : m ≤ 100000)
    (h : ∀ g cp w', J2 e w0 w' (.slice (some ⟨g, 0, none⟩) m cp) m zs vb nb xb → K (a.put o.dst (.slice (some ⟨g, 0, none⟩) m cp)) w') :
    if Region.wanted o (yielded ops a.tmps) = true then Oper.wp P o a w K Q else E := by
  have hw : Region.wanted o (yielded ops a.tmps) = true := by simp [Region.wanted, hgd]
  rw [if_pos hw]
  obtain ⟨v', w', hr, h2, h3, h4⟩ := run_append_first (P := P) w t o.type e i z ht hi hz hsize hby hzs ag ad m c zs (hrow.below hJ.bel) hm hn w0.heap.size hJ.bel.size
  have hj : J2 e w0 w' v' m zs vb nb xb := hJ.step h2 h3 (.inr h4)
  rcases h2.2 with ⟨_, h0⟩ | ⟨g, cp, cur, rfl, _⟩
  · omega
  unfold Oper.wp execOp
  simp only [ho, resolve, invoke, builtin, Sem.run_bind, Sem.run_pure, Result.andThen_ok, List.map_toArray, List.map_cons, List.map_nil, hs, hx, hr]
  exact h g cp w' hj
theorem step_next {e : TypeId} {w0 w : World} {g n cap : Nat} {xa : List Int} {vb : Value} {nb : Nat} {xb : List Int} (hJ : J2 e w0 w (.slice (some ⟨g, 0, none⟩) n cap) n xa vb nb xb) (hgd : o.guard = none) (s x : Operand) (t : TypeId)
    (ho : o.op = .call { callee := .builtin .append, args := #[s, x], argTypes := #[t, t] }) (i : TypeInfo) (z : Value) (ht : P.underlying t = some (.slice e)) (hi : P.info? e = some i) (hz : i.zero = some z) (hsize : i.size = 1) (hby : i.bytes = 8) (hzs : z.cells.size = 1)
    (ad : Addr) (hs : a.eval s = .slice (some ⟨g, 0, none⟩) n cap) (m c : Nat) (zs : List Int) (hx : a.eval x = .slice (some ad) m c) (hrow : Row .i64 w0 (some ad) m c zs) (hm : 0 < m) (hn : n + m ≤ 100000)
    (h : ∀ g cp w', J2 e w0 w' (.slice (some ⟨g, 0, none⟩) (n + m) cp) (n + m) (xa ++ zs) vb nb xb → K (a.put o.dst (.slice (some ⟨g, 0, none⟩) (n + m) cp)) w') :
    if Region.wanted o (yielded ops a.tmps) = true then Oper.wp P o a w K Q else E := by
  have hw : Region.wanted o (yielded ops a.tmps) = true := by simp [Region.wanted, hgd]
  rw [if_pos hw]
  obtain ⟨v', w', hr, h2, h3, h4⟩ := run_append_at (P := P) w w0.heap.size t o.type e i z ht hi hz hsize hby hzs g n cap xa hJ.oa ad m c zs (hrow.below hJ.bel) hm (by omega) hJ.bel.size
  have hj : J2 e w0 w' v' (n + m) (xa ++ zs) vb nb xb := hJ.step h2 h3 h4
  rcases h2.2 with ⟨_, h0⟩ | ⟨g', cp, cur, rfl, _⟩
  · omega
  unfold Oper.wp execOp
  simp only [ho, resolve, invoke, builtin, Sem.run_bind, Sem.run_pure, Result.andThen_ok, List.map_toArray, List.map_cons, List.map_nil, hs, hx, hr]
  exact h g' cp w' hj
end
end Go.Proofs.YtmdmehopefgndaaGreatDoor

/- Two rows of numbers that grow by one number a time. -/
namespace Go.Proofs.YtmdmehopefgndaaGreatDoor
open Go.RowKit
set_option linter.unusedVariables false
/-- Behind an append to one of them: its row is the one that it was, or a new one. -/
theorem J2.step' {e : TypeId} {w0 w : World} {va : Value} {na : Nat} {xa : List Int} {vb : Value} {nb : Nat} {xb : List Int} (h : J2 e w0 w va na xa vb nb xb) {w' : World} {v' : Value} {n' : Nat} {xs : List Int} (ho : w'.ownsRow w0.heap.size e 1 v' n' (xs.map (Value.int .i64))) (hg : w.grownBy w' va.ownBlock) (hb : v'.ownBlock = va.ownBlock ∨ ∃ g, v'.ownBlock = some g ∧ w.heap.size ≤ g) : J2 e w0 w' v' n' xs vb nb xb := by
  refine ⟨ho, ?_, ?_, ?_⟩
  · refine h.ob.kept hg ?_
    cases hv : vb.ownBlock with
    | none => exact .inl rfl
    | some g => exact .inr (fun h1 => h.ne g h1.symm hv)
  · intro g h1 h2
    rcases hb with hb | ⟨g', hb, hg'⟩
    · rw [hb] at h1; exact h.ne g h1 h2
    · rw [hb] at h1
      have := (h.ob.lt g h2).2
      simp at h1
      omega
  · exact h.bel.grown hg h.bel.size (fun j hj => (h.oa.lt j hj).1)
/-- One number more. -/
theorem run_append_j2 {P : Program} {e : TypeId} {w0 w : World} {va : Value} {na : Nat} {xa : List Int} {vb : Value} {nb : Nat} {xb : List Int} (hJ : J2 e w0 w va na xa vb nb xb) (t ty : TypeId) (i : TypeInfo) (z : Value) (ht : P.underlying t = some (.slice e)) (hi : P.info? e = some i) (hz : i.zero = some z) (hsize : i.size = 1) (hby : i.bytes = 8) (hzs : z.cells.size = 1)
    (ad : Addr) (y : Int) (hrow : Row .i64 w (some ad) 1 1 [y]) (hn : (na + 1) * 8 ≤ 140737488355328) :
    ∃ g cp w', (Builtin.append_ #[t, t] ty #[va, .slice (some ad) 1 1]).run P w = .ok (.slice (some ⟨g, 0, none⟩) (na + 1) cp) w' ∧ J2 e w0 w' (.slice (some ⟨g, 0, none⟩) (na + 1) cp) (na + 1) (xa ++ [y]) vb nb xb := by
  rcases hJ.oa.2 with ⟨rfl, rfl⟩ | ⟨g, cap, cur, rfl, _⟩
  · have hxa : xa = [] := by have := hJ.oa.1; simpa using this
    subst hxa
    have hnews : ∀ j u, ([y].map (Value.int .i64))[j]? = some u → w.cell? (ad.add j) = some u := by
      intro j u hj
      obtain ⟨b, off, e1, _, hc⟩ := hrow.cells (by omega)
      simp only [Option.some.injEq] at e1
      subst e1
      match j, hj with
      | 0, hj =>
        simp at hj
        subst hj
        have hadd : (⟨b, off, none⟩ : Addr).add 0 = ⟨b, off + 0, none⟩ := by unfold Addr.add; split <;> simp_all
        rw [hadd]
        exact hc 0 (by simp)
      | j + 1, hj => simp at hj
    obtain ⟨v', w', hr, h2, h3, _⟩ := run_append_own (P := P) w w.heap.size t ty e i z 1 8 ht hi hz hsize hby hzs (by decide) (.slice none 0 0) 0 [] (World.ownsRow_nil _ _ _ _) ad 1 1 ([y].map (Value.int .i64)) (by simp) hnews (ints_oneCell .i64 [y]) (by unfold maxLen; omega) (by omega) (Nat.le_refl _)
    rcases h2.2 with ⟨_, h0⟩ | ⟨g', cp, cur, rfl, hb, _⟩
    · omega
    exact ⟨g', cp, w', hr, hJ.step' (owns_mono (by simpa using h2) hJ.bel.size) h3 (.inr ⟨g', rfl, hb⟩)⟩
  · obtain ⟨v', w', hr, h2, h3, h4⟩ := run_append_at (P := P) w w0.heap.size t ty e i z ht hi hz hsize hby hzs g na cap xa hJ.oa ad 1 1 [y] hrow (by omega) (by omega) hJ.bel.size
    have hj := hJ.step h2 h3 h4
    rcases h2.2 with ⟨_, h0⟩ | ⟨g', cp, cur, rfl, _⟩
    · omega
    exact ⟨g', cp, w', hr, hj⟩
theorem wpList_j2 {P : Program} {ops : Array Oper} {rest : List Oper} {o : Oper} {a : Act} {Q : Exit → Act → World → Prop} {e : TypeId} {w0 w : World} {va : Value} {na : Nat} {xa : List Int} {vb : Value} {nb : Nat} {xb : List Int} (hJ : J2 e w0 w va na xa vb nb xb) (hgd : o.guard = none) (s x : Operand) (t : TypeId)
    (ho : o.op = .call { callee := .builtin .append, args := #[s, x], argTypes := #[t, t] }) (i : TypeInfo) (z : Value) (ht : P.underlying t = some (.slice e)) (hi : P.info? e = some i) (hz : i.zero = some z) (hsize : i.size = 1) (hby : i.bytes = 8) (hzs : z.cells.size = 1)
    (hs : a.eval s = va) (ad : Addr) (y : Int) (hx : a.eval x = .slice (some ad) 1 1) (hrow : Row .i64 w (some ad) 1 1 [y]) (hn : (na + 1) * 8 ≤ 140737488355328)
    (h : ∀ g cp w', J2 e w0 w' (.slice (some ⟨g, 0, none⟩) (na + 1) cp) (na + 1) (xa ++ [y]) vb nb xb → wpList P ops Q rest (a.put o.dst (.slice (some ⟨g, 0, none⟩) (na + 1) cp)) w') : wpList P ops Q (o :: rest) a w :=
  wpList_plain hgd fun K hK => by
    obtain ⟨g, cp, w', hr, h2⟩ := run_append_j2 (P := P) hJ t o.type i z ht hi hz hsize hby hzs ad y hrow hn
    unfold Oper.wp execOp
    simp only [ho, resolve, invoke, builtin, Sem.run_bind, Sem.run_pure, Result.andThen_ok, List.map_toArray, List.map_cons, List.map_nil, hs, hx, hr]
    exact hK _ _ (h g cp w' h2)
end Go.Proofs.YtmdmehopefgndaaGreatDoor
