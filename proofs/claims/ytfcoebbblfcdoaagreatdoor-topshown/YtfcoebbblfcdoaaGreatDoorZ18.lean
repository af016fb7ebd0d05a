import Derived.Test.YtfcoebbblfcdoaaGreatDoorZ17
import Derived.WalkKit
import Derived.WalkSpells
import Derived.WalkLawsBesides
import Derived.Outline
import Derived.Test.YtfcoebbblfcdoaaGreatDoorZ06
import Derived.Test.YtfcoebbblfcdoaaGreatDoorRows
import Derived.Great.BuildSlice
import Derived.Test.YtfcoebbblfcdoaaGreatDoorZ16
import Derived.Deep.RegionHeld3
import Derived.Deep.RegionHeldLaw
import Derived.Deep.RegionLaw
import Derived.Deep.LoopGhost
import Derived.WalkMore
import Derived.Shelf.SlSortCmp.NoneTotal
import Derived.Shelf.SlicesG.Cmp
import Derived.Shelf.SlGeneric
import Derived.Shelf.Lay
import Derived.Ground.SlsfProg
import Derived.Ground.SlgcProg
/- The contracts of Canon, Mirror and works. -/
namespace Go.Proofs.YtfcoebbblfcdoaaGreatDoor
open Go.RowKit Go.Maps
set_option linter.unusedVariables false
set_option maxHeartbeats 1000000
set_option maxRecDepth 100000
theorem canon_any (r : Int) (w : World) : Calls Tryz.prog 191 #[.int .i32 r] w fun e w' => e = .returned (.int .i32 (Ucd.canon r)) /\ w = w' := by
 by_cases h1 : r = 9001
 ·subst h1
  go_enter Tryz.func191, Tryz.ntmps191
  go_wp2
  go_ret
  exact ⟨rfl, rfl⟩
 ·by_cases h2 : r = 9002
  ·subst h2
   go_enter Tryz.func191, Tryz.ntmps191
   go_wp2
   go_ret
   exact ⟨rfl, rfl⟩
  ·have HC : Hid (Ucd.canon r = r) := hide (by unfold Ucd.canon; rw [if_neg h1, if_neg h2])
   go_enter Tryz.func191, Tryz.ntmps191
   go_wp2
   go_ret
   exact ⟨ret_int HC.out.symm, rfl⟩
theorem miInfo : (Tryz.prog.info? 169).map (·.size) = some (pairCells Ucd.mirrored).size := by kernel_rfl
theorem miSize : (pairCells Ucd.mirrored).size = 20 := by kernel_rfl
theorem oth_step (r : Int) : ∀ (l : List (Int × Int)) (i : Nat), i < l.length -> Ucd.oth (l.drop i) r = if r = (l.getD i (0, 0)).1 then some (l.getD i (0, 0)).2 else if r = (l.getD i (0, 0)).2 then some (l.getD i (0, 0)).1 else Ucd.oth (l.drop (i + 1)) r := by
 intro l i h
 rw [List.drop_eq_getElem_cons h]
 have e : l.getD i (0, 0) = l[i] := by simp [List.getD, List.getElem?_eq_getElem h]
 simp only [Ucd.oth, e]
theorem ret_rune_bool {a : Int} {b : Bool} {s : Int × Bool} (h : s = (a, b)) : Ending.returned (.tuple #[.int .i32 a, .bool b]) = .returned (.tuple #[.int .i32 s.1, .bool s.2]) := by rw [h]
theorem mirror_any (r : Int) (w : World) (hr : (Lit.int .i32 r).wf = true) (hm : Marks w) :
  Calls Tryz.prog 84 #[.int .i32 r] w fun e w' => e = .returned (.tuple #[.int .i32 (Ucd.mir r).1, .bool (Ucd.mir r).2]) /\ Below w.heap.size w w' := by
 have HR := hide hr
 have HM := hide hm
 clear hr hm
 by_cases hk : (Ucd.side r).1 = 0
 ·have HX : Hid (Ucd.mir r = match Ucd.oth (Ucd.mirrored.drop 0) r with | some m => (m, true) | none => (0, false)) := hide (by unfold Ucd.mir; rw [if_pos hk]; rfl)
  go_enter Tryz.func84, Tryz.ntmps84
  go_wp2_with fail
  refine (bracket_any r w HR.out HM.out).mono ?_
  rintro e w1 ⟨rfl, hb1⟩
  rw [hk]
  have HM1 := hide (HM.out.below hb1)
  have HC : Hid (∀ i, i < (pairCells Ucd.mirrored).size -> w1.cell? ⟨0, i, none⟩ = (pairCells Ucd.mirrored)[i]?) := hide fun i hi => HM1.out.1 i (by rw [miSize] at hi; exact hi)
  generalize (Ucd.side r).2 = z at *
  go_wp2_with (first
   | (refine wpList_load_cells rfl 169 _ rfl 0 rfl (pairCells Ucd.mirrored) _ HC.out Tryz.underlying169 rfl miInfo ?_))
  go_loopw [17] (fun s17 wr => ∃ i : Nat, s17 = .int .i64 i /\ i <= 10 /\ Below w1.heap.size w1 wr /\ Hid (Ucd.mir r = match Ucd.oth (Ucd.mirrored.drop i) r with | some m => (m, true) | none => (0, false))) (fun s17 _ => (10 - intOf s17).toNat)
  case atStart => exact ⟨0, rfl, by omega, Below.refl _ _, HX⟩
  case round =>
   obtain ⟨i, rfl, hi, hb, HI⟩ := hrel
   by_cases hi2 : i < 10
   ·have hix := run_index_pair 169 10 Tryz.underlying169 Ucd.mirrored rfl wr hi2
    have hst := oth_step r Ucd.mirrored i hi2
    have HB := hide (hb1.trans ((hb.alloc hb.size (.cells #[.int .i32 (Ucd.mirrored.getD i (0, 0)).1, .int .i32 (Ucd.mirrored.getD i (0, 0)).2] 168)).mono hb1.size))
    have HBr := hide (hb.alloc hb.size (.cells #[.int .i32 (Ucd.mirrored.getD i (0, 0)).1, .int .i32 (Ucd.mirrored.getD i (0, 0)).2] 168))
    have HST := hide hst
    clear hst
    generalize (Ucd.mirrored.getD i (0, 0)).1 = pa at *
    generalize (Ucd.mirrored.getD i (0, 0)).2 = pb at *
    obtain ⟨g0, g1⟩ := cells2 wr (.int .i32 pa) (.int .i32 pb) 168
    by_cases h1 : r = pa
    ·have HY : Hid (Ucd.mir r = (pb, true)) := hide (by have := HI.out; rw [HST.out, if_pos h1] at this; exact this)
     subst h1
     go_wp2_with (first
      | (refine wpList_store_new wr rfl 168 _ _ rfl rfl #[.int .i32 0, .int .i32 0] #[.int .i32 r, .int .i32 pb] rfl rfl (two_info pairInfo32 _ _) rfl (two_one _ _) ?_))
     go_ret2
     exact ⟨ret_rune_bool HY.out, HB.out⟩
    ·by_cases h2 : r = pb
     ·have HY : Hid (Ucd.mir r = (pa, true)) := hide (by have := HI.out; rw [HST.out, if_neg h1, if_pos h2] at this; exact this)
      subst h2
      go_wp2_with (first
       | (refine wpList_store_new wr rfl 168 _ _ rfl rfl #[.int .i32 0, .int .i32 0] #[.int .i32 pa, .int .i32 r] rfl rfl (two_info pairInfo32 _ _) rfl (two_one _ _) ?_))
      go_ret2
      exact ⟨ret_rune_bool HY.out, HB.out⟩
     ·have HY : Hid (Ucd.mir r = match Ucd.oth (Ucd.mirrored.drop (i + 1)) r with | some m => (m, true) | none => (0, false)) := hide (by have := HI.out; rw [HST.out, if_neg h1, if_neg h2] at this; exact this)
      go_wp2_with (first
       | (refine wpList_store_new wr rfl 168 _ _ rfl rfl #[.int .i32 0, .int .i32 0] #[.int .i32 pa, .int .i32 pb] rfl rfl (two_info pairInfo32 _ _) rfl (two_one _ _) ?_))
      go_roundw
      case rel => exact ⟨i + 1, by first | rfl | (congr 1), by omega, HBr.out, HY⟩
      case measure => simp [intOf]; omega
   ·obtain rfl : i = 10 := by omega
    have HY : Hid (Ucd.mir r = (0, false)) := hide (by have := HI.out; rw [List.drop_of_length_le (by decide)] at this; exact this)
    go_wp2
    go_ret2
    exact ⟨ret_rune_bool HY.out, hb1.trans (hb.mono hb1.size)⟩
 ·have HX : Hid (Ucd.mir r = ((Ucd.side r).2, true)) := hide (by unfold Ucd.mir; rw [if_neg hk])
  go_enter Tryz.func84, Tryz.ntmps84
  go_wp2_with fail
  refine (bracket_any r w HR.out HM.out).mono ?_
  rintro e w1 ⟨rfl, hb1⟩
  go_wp2
  go_ret2
  exact ⟨ret_rune_bool HX.out, hb1⟩
end Go.Proofs.YtfcoebbblfcdoaaGreatDoor

/- Slices of pairs of places. -/
namespace Go.Proofs.YtfcoebbblfcdoaaGreatDoor
open Go.RowKit
set_option linter.unusedVariables false
def flat2 (ps : List (Nat × Nat)) : List Value := ps.flatMap fun x => [.int .i64 (x.1 : Int), .int .i64 (x.2 : Int)]
theorem flat2_len (ps : List (Nat × Nat)) : (flat2 ps).length = ps.length * 2 := by
 induction ps with
 | nil => rfl
 | cons x ps ih => rw [flat2, List.flatMap_cons, List.length_append, <- flat2, ih]; simp; omega
theorem flat2_snoc (ps : List (Nat × Nat)) (x : Nat × Nat) : flat2 (ps ++ [x]) = flat2 ps ++ [.int .i64 (x.1 : Int), .int .i64 (x.2 : Int)] := by
 rw [flat2, List.flatMap_append]; simp [flat2]
theorem flat2_at (ps : List (Nat × Nat)) (k : Nat) (h : k < ps.length) : (flat2 ps)[k * 2]? = some (.int .i64 ((ps.getD k (0, 0)).1 : Int)) /\ (flat2 ps)[k * 2 + 1]? = some (.int .i64 ((ps.getD k (0, 0)).2 : Int)) := by
 induction ps generalizing k with
 | nil => simp at h
 | cons x ps ih =>
  rw [flat2, List.flatMap_cons, <- flat2]
  cases k with
  | zero => simp
  | succ k =>
   have := ih k (by simpa using h)
   rw [show (k + 1) * 2 = k * 2 + 2 from by omega]
   rw [List.getElem?_append_right (by simp), List.getElem?_append_right (by simp)]
   simpa using this
structure Pairs (w : World) (ao : Option Addr) (n cap : Nat) (ps : List (Nat × Nat)) : Prop where
 len : ps.length = n
 le : n <= cap
 max : cap <= maxLen
 cells : 0 < n -> ∃ b, ao = some ⟨b, 0, none⟩ /\ b < w.heap.size /\ ∀ k, k < n -> w.cell? ⟨b, k * 2, none⟩ = some (.int .i64 ((ps.getD k (0, 0)).1 : Int)) /\ w.cell? ⟨b, k * 2 + 1, none⟩ = some (.int .i64 ((ps.getD k (0, 0)).2 : Int))
 nil : ao = none -> cap = 0
theorem Pairs.below {w w' : World} {ao : Option Addr} {n cap : Nat} {ps : List (Nat × Nat)} (h : Pairs w ao n cap ps) (hb : Below w.heap.size w w') : Pairs w' ao n cap ps :=
 ⟨h.len, h.le, h.max, fun h0 => by
  obtain ⟨b, e1, e2, e3⟩ := h.cells h0
  exact ⟨b, e1, Nat.lt_of_lt_of_le e2 hb.size, fun k hk => ⟨(hb.cell (by exact e2)).trans (e3 k hk).1, (hb.cell (by exact e2)).trans (e3 k hk).2⟩⟩, h.nil⟩
theorem pairs_of_owns {w : World} {base e n : Nat} {v : Value} {ps : List (Nat × Nat)} (h : w.ownsRow base e 2 v n (flat2 ps)) : ∃ ao cap, v = .slice ao n cap /\ Pairs w ao n cap ps := by
 have hl : ps.length = n := by have := h.1; rw [flat2_len] at this; omega
 rcases h.2 with ⟨rfl, rfl⟩ | ⟨g, cap, cur, rfl, hb, hg, hn, hc, hs, ht⟩
 ·exact ⟨none, 0, rfl, hl, Nat.le_refl _, Nat.zero_le _, fun h0 => by omega, fun _ => rfl⟩
 ·refine ⟨_, cap, rfl, hl, hn, hc, fun h0 => ⟨g, rfl, (Array.getElem?_eq_some_iff.1 hg).1, fun k hk => ?_⟩, fun h => by cases h⟩
  have := flat2_at ps k (by omega)
  exact ⟨(h.cellAt (k * 2) (by omega)).trans this.1, (h.cellAt (k * 2 + 1) (by omega)).trans this.2⟩
theorem pairInfo : (Tryz.prog.info? 140).map (fun i => (i.zero, i.size, i.bytes)) = some (some (.agg #[.int .i64 0, .int .i64 0]), 2, 16) := by kernel_rfl
theorem build_pair1 (x y : Int) (w : World) : (Instr.buildSlice 136 1 #[(0, .agg #[.int .i64 x, .int .i64 y])]).run Tryz.prog w = .ok (.slice (some ⟨w.heap.size, 0, none⟩) 1 1) (w.alloc (.cells #[.int .i64 x, .int .i64 y] 140)) := by
 have hq := pairInfo
 cases hi : Tryz.prog.info? 140 with
 | none => rw [hi] at hq; cases hq
 | some ie =>
  rw [hi] at hq
  simp only [Option.map_some, Option.some.injEq, Prod.mk.injEq] at hq
  refine run_buildSlice w 136 140 1 _ _ ie _ Tryz.underlying136 hi hq.1 (by rw [hq.2.1]; decide) (by rw [hq.2.1]; decide) ?_
  rw [hq.2.1]
  kernel_rfl
theorem two_new (w : World) (a b : Value) (t : TypeId) : ∀ (j : Nat) (u : Value), [a, b][j]? = some u -> (w.alloc (.cells #[a, b] t)).cell? ((⟨w.heap.size, 0, none⟩ : Addr).add j) = some u := by
 intro j u hj
 have hadd : (⟨w.heap.size, 0, none⟩ : Addr).add j = ⟨w.heap.size, j, none⟩ := by unfold Addr.add; split <;> simp_all
 rw [hadd, World.cell?_alloc_mark]
 rw [<- hj]
 simp
end Go.Proofs.YtfcoebbblfcdoaaGreatDoor

/- Brackets of a text: their kinds, who ends whom; those that wait, as they lie in memory. -/
namespace Go.Proofs.YtfcoebbblfcdoaaGreatDoor
open Go.RowKit
set_option linter.unusedVariables false
set_option maxHeartbeats 1000000
set_option maxRecDepth 100000
namespace Br
def kd (l t : List Int) (i : Nat) : Int := if t.getD i 0 = 14 then (Ucd.side (l.getD i 0)).1 else 0
def en (l : List Int) (x : Nat) : Int := Ucd.canon (Ucd.side (l.getD x 0)).2
def mt (l : List Int) (x i : Nat) : Bool := en l x == Ucd.canon (l.getD i 0)
def FF (l t : List Int) : List (Nat × Nat) := F (kd l t) (mt l) l.length
def PP (l t : List Int) : List (Nat × Nat) := PS (kd l t) (mt l) l.length
theorem kd_not {l t : List Int} {i : Nat} (h : ¬ t.getD i 0 = 14) : kd l t i = 0 := by unfold kd; rw [if_neg h]
theorem kd_on {l t : List Int} {i : Nat} (h : t.getD i 0 = 14) : kd l t i = (Ucd.side (l.getD i 0)).1 := by unfold kd; rw [if_pos h]
end Br
def wcs (l : List Int) : List Nat -> List Value
 | [] => []
 | x :: r => wcs l r ++ [.int .i64 (x : Int), .int .i32 (Br.en l x)]
theorem wcs_len (l : List Int) (W : List Nat) : (wcs l W).length = W.length * 2 := by
 induction W with
 | nil => rfl
 | cons x r ih => rw [wcs, List.length_append, ih, List.length_cons]; simp; omega
theorem wcs_app (l : List Int) (A B : List Nat) : ∃ zs, wcs l (A ++ B) = wcs l B ++ zs := by
 induction A with
 | nil => exact ⟨[], by simp⟩
 | cons x r ih =>
  obtain ⟨zs, e⟩ := ih
  exact ⟨zs ++ [.int .i64 (x : Int), .int .i32 (Br.en l x)], by rw [List.cons_append, wcs, e, List.append_assoc]⟩
theorem owns_cut {w : World} {base : Nat} {e : TypeId} {size g cap n m : Nat} {xs zs : List Value} (h : w.ownsRow base e size (.slice (some ⟨g, 0, none⟩) n cap) n (xs ++ zs)) (hx : xs.length = m * size) (hm : m <= n) :
  w.ownsRow base e size (.slice (some ⟨g, 0, none⟩) m cap) m xs := by
 obtain ⟨_, h2⟩ := h
 rcases h2 with ⟨h0, _⟩ | ⟨g', cap', cur, hv, hg, hh, hn, hcap, hsz, htake⟩
 ·cases h0
 ·cases hv
  refine ⟨hx, .inr ⟨g, cap, cur, rfl, hg, hh, by omega, hcap, hsz, ?_⟩⟩
  have h3 : (cur.toList.take (n * size)).take (m * size) = (xs ++ zs).take (m * size) := by rw [htake]
  rw [List.take_take, Nat.min_eq_left (Nat.mul_le_mul_right _ hm)] at h3
  rw [h3, <- hx, List.take_left']
  rfl
theorem owns_apart {w : World} {b b' : Nat} {e e' : TypeId} {s s' n n' : Nat} {v v' : Value} {xs xs' : List Value} (h : w.ownsRow b e s v n xs) (h' : w.ownsRow b' e' s' v' n' xs') (hne : ¬ e = e') : v.ownBlock = none \/ v.ownBlock ≠ v'.ownBlock := by
 rcases h.2 with ⟨rfl, _⟩ | ⟨g, cap, cur, rfl, _, hg, _⟩
 ·exact .inl rfl
 ·refine .inr fun he => ?_
  rcases h'.2 with ⟨rfl, _⟩ | ⟨g', cap', cur', rfl, _, hg', _⟩
  ·cases he
  ·simp only [Value.ownBlock, Option.some.injEq] at he
   subst he
   rw [hg] at hg'
   simp only [Option.some.injEq, Obj.cells.injEq] at hg'
   exact hne hg'.2.1
structure SW (l : List Int) (w0 : World) (W : List Nat) (ps : List (Nat × Nat)) (g cap : Nat) (vp : Value) (w : World) : Prop where
 old : Below w0.heap.size w0 w
 wt : w.ownsRow w0.heap.size 209 2 (.slice (some ⟨g, 0, none⟩) W.length cap) W.length (wcs l W)
 ps : w.ownsRow w0.heap.size 140 2 vp ps.length (flat2 ps)
section
variable {l : List Int} {w0 : World} {W : List Nat} {ps : List (Nat × Nat)} {g cap : Nat} {vp : Value} {w : World}
theorem SW.below (h : SW l w0 W ps g cap vp w) {w' : World} (hb : Below w.heap.size w w') : SW l w0 W ps g cap vp w' := ⟨KO.on h.old hb, owns_below h.wt hb, owns_below h.ps hb⟩
theorem SW.caps (h : SW l w0 W ps g cap vp w) : W.length <= cap /\ cap <= maxLen /\ g < w.heap.size := by
 rcases h.wt.2 with ⟨h0, _⟩ | ⟨g', cap', cur, hv, _, hg, h1, h2, _⟩
 ·cases h0
 ·cases hv; exact ⟨h1, h2, (Array.getElem?_eq_some_iff.1 hg).1⟩
theorem SW.cut (h : SW l w0 W ps g cap vp w) {A R : List Nat} (e : W = A ++ R) : SW l w0 R ps g cap vp w := by
 subst e
 obtain ⟨zs, ez⟩ := wcs_app l A R
 have hw := h.wt
 rw [ez] at hw
 exact ⟨h.old, owns_cut hw (wcs_len l R) (by simp), h.ps⟩
theorem SW.top (h : SW l w0 W ps g cap vp w) {A R : List Nat} {x : Nat} (e : W = A ++ x :: R) : w.cell? ⟨g, R.length * 2, none⟩ = some (.int .i64 (x : Int)) /\ w.cell? ⟨g, R.length * 2 + 1, none⟩ = some (.int .i32 (Br.en l x)) := by
 have hw := (h.cut e).wt
 have hl := wcs_len l R
 rw [wcs] at hw
 have hn : (wcs l R ++ [Value.int .i64 (x : Int), Value.int .i32 (Br.en l x)]).length = R.length * 2 + 2 := by rw [List.length_append, hl]; rfl
 refine ⟨(hw.cellAt (R.length * 2) (by rw [List.length_cons]; omega)).trans ?_, (hw.cellAt (R.length * 2 + 1) (by rw [List.length_cons]; omega)).trans ?_⟩
 ·rw [List.getElem?_append_right (by omega), hl, Nat.sub_self]; rfl
 ·rw [List.getElem?_append_right (by omega), hl, show R.length * 2 + 1 - R.length * 2 = 1 from by omega]; rfl
theorem SW.push (h : SW l w0 W ps g cap vp w) {k : Nat} {o : Obj} {v' : Value} {w' : World} (ho : w'.ownsRow w0.heap.size 209 2 v' (W.length + 1) (wcs l W ++ [.int .i64 (k : Int), .int .i32 (Br.en l k)])) (hg : (w.alloc o).grownBy w' (some g)) :
  ∃ g' cap', v' = .slice (some ⟨g', 0, none⟩) (W.length + 1) cap' /\ SW l w0 (k :: W) ps g' cap' vp w' := by
 obtain ⟨g', cap', rfl, hb, hle⟩ := owns_pos ho (by omega)
 have ha := owns_apart h.ps h.wt (by decide)
 refine ⟨g', cap', rfl, ?_, ho, ?_⟩
 ·refine Below.grown (KO.alloc h.old o) hg (by simp; have := h.old.size; omega) fun j hj => ?_
  cases hj
  exact (h.wt.lt g rfl).1
 ·exact (h.ps.alloc o).kept hg ha
theorem SW.pair (h : SW l w0 W ps g cap vp w) {p : Nat × Nat} {o : Obj} {v' : Value} {w' : World} (ho : w'.ownsRow w0.heap.size 140 2 v' (ps.length + 1) (flat2 ps ++ [.int .i64 (p.1 : Int), .int .i64 (p.2 : Int)])) (hg : (w.alloc o).grownBy w' vp.ownBlock) :
  SW l w0 W (ps ++ [p]) g cap v' w' := by
 have ha := owns_apart h.wt h.ps (by decide)
 refine ⟨?_, (h.wt.alloc o).kept hg ha, ?_⟩
 ·exact Below.grown (KO.alloc h.old o) hg (by simp; have := h.old.size; omega) fun j hj => (h.ps.lt j hj).1
 ·rw [List.length_append, flat2_snoc]; exact ho
end
theorem waitInfo : (Tryz.prog.info? 209).map (fun i => (i.zero, i.size, i.bytes)) = some (some (.agg #[.int .i64 0, .int .i32 0]), 2, 16) := by kernel_rfl
theorem build_wait (x y : Int) (w : World) : (Instr.build 209 #[(0, .int .i64 x), (1, .int .i32 y)]).run Tryz.prog w = .ok (.agg #[.int .i64 x, .int .i32 y]) w := run_build w 209 _ _ (by kernel_rfl)
theorem build_two (x y : Int) (w : World) : (Instr.build 140 #[(0, .int .i64 x), (1, .int .i64 y)]).run Tryz.prog w = .ok (.agg #[.int .i64 x, .int .i64 y]) w := run_build w 140 _ _ (by kernel_rfl)
theorem build_wait1 (x y : Int) (w : World) : (Instr.buildSlice 207 1 #[(0, .agg #[.int .i64 x, .int .i32 y])]).run Tryz.prog w = .ok (.slice (some ⟨w.heap.size, 0, none⟩) 1 1) (w.alloc (.cells #[.int .i64 x, .int .i32 y] 209)) := by
 have hq := waitInfo
 cases hi : Tryz.prog.info? 209 with
 | none => rw [hi] at hq; cases hq
 | some ie =>
  rw [hi] at hq
  simp only [Option.map_some, Option.some.injEq, Prod.mk.injEq] at hq
  refine run_buildSlice w 207 209 1 _ _ ie _ Tryz.underlying207 hi hq.1 (by rw [hq.2.1]; decide) (by rw [hq.2.1]; decide) ?_
  rw [hq.2.1]
  kernel_rfl
theorem wpList_append_two {P : Program} (w : World) {ops : Array Oper} {rest : List Oper} {o : Oper} {a : Act} {Q : Exit -> Act -> World -> Prop} (hgd : o.guard = none) (s x : Operand) (t : TypeId)
  (ho : o.op = .call { callee := .builtin .append, args := #[s, x], argTypes := #[t, t] })
  (base : Nat) (e : TypeId) (i : TypeInfo) (z : Value) (ht : P.underlying t = some (.slice e)) (hi : P.info? e = some i) (hz : i.zero = some z)
  (hsize : i.size = 2) (hby : i.bytes = 16) (hzs : z.cells.size = 2)
  (v : Value) (n : Nat) (xs : List Value) (hs : a.eval s = v) (p q : Value) (hown : w.ownsRow base e 2 v n xs)
  (g : Nat) (hg : g = w.heap.size) (hx : a.eval x = .slice (some ⟨g, 0, none⟩) 1 1) (h1 : ∀ u ∈ [p, q], u.oneCell' = true)
  (hn : (n + 1) * 16 <= 140737488355328) (hbase : base <= w.heap.size)
  (h : ∀ v' w', w'.ownsRow base e 2 v' (n + 1) (xs ++ [p, q]) -> (w.alloc (.cells #[p, q] e)).grownBy w' v.ownBlock -> wpList P ops Q rest (a.put o.dst v') w') :
  wpList P ops Q (o :: rest) a (w.alloc (.cells #[p, q] e)) := by
 subst hg
 refine wpList_append_own _ hgd s x t ho base e i z 2 16 ht hi hz hsize hby hzs (by decide) v n xs hs (hown.alloc _) ⟨w.heap.size, 0, none⟩ 1 1 [p, q] hx rfl (two_new w p q e) h1 (by unfold maxLen; omega) hn (by simp; omega) (fun v' w' g1 g2 _ => h v' w' g1 g2)
end Go.Proofs.YtfcoebbblfcdoaaGreatDoor

/- The search for pairs: its contract. -/
namespace Go.Proofs.YtfcoebbblfcdoaaGreatDoor
open Go.RowKit
set_option linter.unusedVariables false
set_option maxHeartbeats 1000000
set_option maxRecDepth 100000
theorem run_cut2 (g n cap j : Nat) (hj : j <= cap) (w : World) :
  (Instr.slice 207 (.slice (some ⟨g, 0, none⟩) n cap) none (some (.int .i64 (j : Int))) none).run Tryz.prog w = .ok (.slice (some ⟨g, 0, none⟩) j cap) w := by
 have e1 : (0 : Int) <= (j : Int) /\ (j : Int) <= (cap : Int) := by omega
 simp [Instr.slice, run_underlying Tryz.underlying207, Instr.sliceBounds, go_sem, e1]
theorem bsearch_any (a0 a1 : Option Addr) (n c0 c1 : Nat) (l t : List Int) (w : World) (h0 : Row .i32 w a0 n c0 l) (h1 : Row .i64 w a1 n c1 t) (hf : ∀ x ∈ l, (Lit.int .i32 x).wf = true) (hm : Marks w) (hn : n * 8 <= 140737488351232) :
  Calls Tryz.prog 177 #[.slice a0 n c0, .slice a1 n c1] w fun e w' => ∃ v, e = .returned v /\ w'.ownsRow w.heap.size 140 2 v (Br.FF l t).length (flat2 (Br.FF l t)) /\ Below w.heap.size w w' := by
 obtain ⟨iw, hiw, hy0, hy1, hy2⟩ := info_parts waitInfo
 obtain ⟨ip, hip, hz0, hz1, hz2⟩ := info_parts pairInfo
 have HIW := hide hiw
 have HY0 := hide hy0
 have HY1 := hide hy1
 have HY2 := hide hy2
 have HIP := hide hip
 have HZ0 := hide hz0
 have HZ1 := hide hz1
 have HZ2 := hide hz2
 have H0 := hide h0
 have H1 := hide h1
 have HF := hide hf
 have HM := hide hm
 have hbw := build_wait
 have hbw1 := build_wait1
 have hb2 := build_two
 have hb21 := build_pair1
 have hle := h0.le
 have hmx := h0.max
 unfold maxLen at hmx
 have HFF : Hid (Br.FF l t = Br.F (Br.kd l t) (Br.mt l) n) := hide (by rw [<- h0.len]; rfl)
 clear hiw hy0 hy1 hy2 hip hz0 hz1 hz2 h0 h1 hf hm
 go_enter Tryz.func177, Tryz.ntmps177
 go_wp2
 go_step3
 go_wp2_with (at_make; refine wpList_make_own _ rfl _ _ 207 rfl w.heap.size 209 iw _ 2 Tryz.underlying207 HIW.out HY0.out HY1.out _ _ _ 63 rfl rfl rfl (by rw [HY2.out]; omega) (by unfold maxLen; omega) (Nat.le_refl _) ?_; intro w1 hown1 hg1)
 have HS0 : Hid (SW l w [] [] w.heap.size 63 (.slice none 0 0) w1) := hide ⟨Below.grown (Below.refl _ _) hg1 (Nat.le_refl _) (fun j hj => by cases hj), hown1, World.ownsRow_nil _ _ _ _⟩
 clear hown1 hg1
 go_step3
 go_wp2
 go_loopw [5, 6, 15] (fun s5 s6 s15 wr => ∃ (k : Nat) (W : List Nat) (ps : List (Nat × Nat)) (g cap : Nat) (vp : Value), vp = s5 /\ s6 = .slice (some ⟨g, 0, none⟩) W.length cap /\ s15 = .int .i64 k /\ k <= n /\ Hid (Br.at' (Br.kd l t) (Br.mt l) k = ⟨false, W, ps⟩) /\ Hid (SW l w W ps g cap vp wr)) (fun s5 s6 s15 wr => n - (intOf s15).toNat)
 case atStart => exact ⟨0, [], [], w.heap.size, 63, _, rfl, rfl, rfl, by omega, hide rfl, HS0⟩
 case round =>
  obtain ⟨k, W, ps, g, cap, vp, hvp, rfl, rfl, hk, HA, HS⟩ := hrel
  subst hvp
  clear HS0
  by_cases hlt : k < n
  ·have hlt' : (k : Int) < (n : Int) := by omega
   have HK := hide (H0.out.below HS.out.old)
   obtain ⟨b0, o0, e0, hb0, hc0⟩ := HK.out.cells (by omega)
   obtain ⟨b1, o1, e1, hb1, hc1⟩ := (H1.out.below HS.out.old).cells (by omega)
   have g0 := hc0 k (by rw [H0.out.len]; exact hlt)
   have g1 := hc1 k (by rw [H1.out.len]; exact hlt)
   subst e0; subst e1
   have hwl := HS.out.caps
   have hw6 : W.length <= 63 := by have := (Br.inv (kd := Br.kd l t) (mt := Br.mt l) k).wlen; rw [HA.out] at this; exact this
   have hpl : 2 * ps.length + W.length <= k := Br.ps_len HA.out
   have HXF : Hid ((Lit.int .i32 (l.getD k 0)).wf = true) := hide (HF.out _ (by
    have hl : k < l.length := by rw [H0.out.len]; exact hlt
    rw [show l.getD k 0 = l[k] from by simp [List.getD, List.getElem?_eq_getElem hl]]
    exact List.getElem_mem hl))
   have HBR := hide (bracket_any (l.getD k 0) wr HXF.out (HM.out.below HS.out.old))
   have HWB := hide HS.out.old
   clear hc0 hc1 hb0 hb1 HK
   by_cases ht : t.getD k 0 = 14
   ·have HKD := hide (Br.kd_on (l := l) ht)
    rw [ht] at g1
    have hsd := Ucd.side_ok (l.getD k 0)
    have h3 : (Ucd.side (l.getD k 0)).1 = 0 \/ (Ucd.side (l.getD k 0)).1 = 1 \/ (Ucd.side (l.getD k 0)).1 = 2 := by omega
    have HEN : Hid (Br.en l k = Ucd.canon (Ucd.side (l.getD k 0)).2) := hide rfl
    have HMT : Hid (∀ x, Br.mt l x k = (Br.en l x == Ucd.canon (l.getD k 0))) := hide fun x => rfl
    clear ht hsd
    generalize (Ucd.side (l.getD k 0)).2 = pa at *
    rcases h3 with h3 | h3 | h3
    ·rw [h3] at HBR HKD
     have HN := hide (Br.step_skip HA.out (by rw [HKD.out]; decide) (by rw [HKD.out]; decide))
     clear h3 HKD HA HMT HEN
     generalize l.getD k 0 = r at *
     go_wp2_with fail
     refine HBR.out.mono ?_
     rintro e w2 ⟨rfl, hb2'⟩
     have HS2 := hide (HS.out.below hb2')
     clear HS hb2' HBR
     go_wp2
     go_roundw
     case rel => exact ⟨k + 1, W, ps, g, cap, _, rfl, rfl, by go_num, by omega, HN, HS2⟩
     case measure => simp [intOf]; omega
    ·rw [h3] at HBR HKD
     by_cases h6 : W.length = 63
     ·have HN := hide (Br.F_full (n := n) HA.out HKD.out h6 hlt)
      clear h3 HKD HMT HEN
      generalize l.getD k 0 = r at *
      have h6' : (W.length : Int) = 63 := by omega
      go_wp2_with fail
      refine HBR.out.mono ?_
      rintro e w2 ⟨rfl, hb2'⟩
      have HS2 := hide (HS.out.below hb2')
      clear HS hb2' HBR
      rw [h6]
      go_wp2
      rw [Exit.noGoto_ret]
      go_ret
      refine ⟨_, rfl, ?_, HS2.out.old⟩
      rw [HFF.out, HN.out]
      exact HS2.out.ps
     ·have HN := hide (Br.step_open HA.out HKD.out h6)
      have h6' : ¬ (W.length : Int) = 63 := by omega
      have h6b : ((W.length : Int) == 63) = false := beq_false_of_ne h6'
      have HCN := hide (fun V => canon_any pa V)
      clear h3 HKD HMT
      generalize l.getD k 0 = r at *
      generalize hWL : W.length = m at *
      have HWL := hide hWL
      clear hWL
      go_wp2_with fail
      refine HBR.out.mono ?_
      rintro e w2 ⟨rfl, hb2'⟩
      have HS2 := hide (HS.out.below hb2')
      clear HS hb2' HBR
      go_wp2_with fail
      refine (HCN.out _).mono ?_
      rintro e w3 ⟨rfl, rfl⟩
      rw [<- HEN.out]
      generalize hEL : Br.en l k = el at *
      have HEL := hide hEL
      clear hEL HCN HEN
      go_wp2_with (at_builtin; refine wpList_append_two w2 rfl _ _ 207 rfl w.heap.size 209 iw _ Tryz.underlying207 HIW.out HY0.out HY1.out HY2.out rfl _ m (wcs l W) rfl (.int .i64 (k : Int)) (.int .i32 el) (by have := HS2.out.wt; rw [HWL.out] at this; exact this) _ rfl rfl (by simp [Value.oneCell']) (by omega) HS2.out.old.size ?_; intro v' w' ho' hg'; rw [<- HWL.out] at ho' hg'; rw [<- HEL.out] at ho' hg'; obtain ⟨g', cap', rfl, hsw⟩ := HS2.out.push ho' hg')
      go_roundw
      case rel => exact ⟨k + 1, k :: W, ps, g', cap', _, rfl, rfl, by go_num, by omega, HN, hide hsw⟩
      case measure => simp [intOf]; omega
    ·rw [h3] at HBR HKD
     have HCN := hide (fun V => canon_any (l.getD k 0) V)
     have HKD2 := hide HKD.out
     clear h3 HEN
     generalize l.getD k 0 = r at *
     go_wp2_with fail
     refine HBR.out.mono ?_
     rintro e w2 ⟨rfl, hb2'⟩
     have HS2 := hide (HS.out.below hb2')
     clear HS hb2' HBR
     generalize Ucd.canon r = cr at *
     go_wp2
     have HSQ := hide (fun q1 q2 => (HS2.out.below (below_drewN w2 q1)).below (below_drewN _ q2))
     go_loopw [5, 6, 11] (fun s5 s6 s11 wi => ∃ (A R : List Nat) (q : Nat), vp = s5 /\ s6 = .slice (some ⟨g, 0, none⟩) W.length cap /\ s11 = .int .i64 ((R.length : Int) - 1) /\ W = A ++ R /\ wi = w2.drewN q /\ Hid (Br.fd (Br.mt l) k W = Br.fd (Br.mt l) k R)) (fun s5 s6 s11 wi => (intOf s11 + 1).toNat)
     case atStart => exact ⟨[], W, 0, rfl, rfl, rfl, rfl, rfl, hide rfl⟩
     case round =>
      obtain ⟨A, R, q, hv5, rfl, rfl, hAR, rfl, HFD⟩ := hrel
      subst hv5
      cases R with
      | nil =>
       have HN := hide (Br.step_none HA.out HKD2.out (by rw [HFD.out]; rfl))
       have HS3 := hide (HS2.out.below (below_drewN w2 q))
       clear HFD hAR HA HS2 HSQ
       simp only [List.length_nil]
       go_wp2
       go_roundw
       case rel => exact ⟨k + 1, W, ps, g, cap, _, rfl, rfl, by go_num, by omega, HN, HS3⟩
       case measure => simp [intOf]; omega
      | cons x R =>
       obtain ⟨t0, t1⟩ := HS2.out.top hAR
       have hRW : R.length + 1 <= W.length := by rw [hAR]; simp
       have hge : (0 : Int) <= (R.length : Int) := by omega
       have hRi : ((R.length + 1 : Nat) : Int) - 1 = (R.length : Int) := by omega
       have HXM := HMT.out x
       simp only [List.length_cons]
       rw [hRi]
       by_cases hx : Br.en l x = cr
       ·have HFX : Hid (Br.fd (Br.mt l) k W = x :: R) := hide (by rw [HFD.out, Br.fd, HXM, hx]; simp)
        have HN := hide (Br.step_some HA.out HKD2.out HFX.out)
        rw [hx] at t1
        have hcu := run_cut2 g W.length cap R.length (by omega)
        have HAR := hide (show W = (A ++ [x]) ++ R from by rw [hAR]; simp)
        generalize hRL : R.length = m at *
        have HRL := hide hRL
        generalize hWL : W.length = mW at *
        have HWL := hide hWL
        have hmW : (m : Int) < (mW : Int) := by omega
        clear HXM HFD hx hAR HFX HA hRL hWL
        go_wp2_with fail
        go_quiet (first | (go_at_call 191; first | exact Calls.quiet_of_same ((HCN.out _).mono fun _ _ ⟨he, hm⟩ => ⟨he, hm.symm⟩) | exact (HCN.out _).mono fun _ _ ⟨he, hm⟩ => ⟨he, _, hm.symm⟩))
        go_wp2_with (at_builtin; refine wpList_append_two (w2.drewN (q + nq)) rfl _ _ 136 rfl w.heap.size 140 ip _ Tryz.underlying136 HIP.out HZ0.out HZ1.out HZ2.out rfl vp ps.length (flat2 ps) rfl (.int .i64 (x : Int)) (.int .i64 (k : Int)) (HS2.out.below (below_drewN w2 (q + nq))).ps _ rfl rfl (by simp [Value.oneCell']) (by omega) (HS2.out.below (below_drewN w2 (q + nq))).old.size ?_; intro v' w' ho' hg'; have hsw := ((HS2.out.below (below_drewN w2 (q + nq))).pair (p := (x, k)) ho' hg').cut HAR.out)
        rw [<- HRL.out]
        go_roundw
        case rel => exact ⟨k + 1, R, _, g, cap, _, rfl, rfl, by go_num, by omega, HN, hide hsw⟩
        case measure => simp [intOf]; omega
       ·have HFX : Hid (Br.fd (Br.mt l) k W = Br.fd (Br.mt l) k R) := hide (by rw [HFD.out, Br.fd, HXM, if_neg (by simpa using hx)])
        have hxb : (Br.en l x == cr) = false := beq_false_of_ne hx
        have HAR := hide (show W = (A ++ [x]) ++ R from by rw [hAR]; simp)
        generalize hRL : R.length = m at *
        have HRL := hide hRL
        generalize hWL : W.length = mW at *
        have hmW : (m : Int) < (mW : Int) := by omega
        generalize Br.en l x = ex at *
        clear HXM HFD hx hAR HA hRL hWL
        go_wp2_with fail
        go_quiet (first | (go_at_call 191; first | exact Calls.quiet_of_same ((HCN.out _).mono fun _ _ ⟨he, hm⟩ => ⟨he, hm.symm⟩) | exact (HCN.out _).mono fun _ _ ⟨he, hm⟩ => ⟨he, _, hm.symm⟩))
        go_wp2
        go_roundw
        case rel => exact ⟨A ++ [x], R, _, rfl, rfl, by rw [HRL.out], HAR.out, rfl, HFX⟩
        case measure => simp [intOf]
   ·have HN := hide (Br.step_skip HA.out (by rw [Br.kd_not ht]; decide) (by rw [Br.kd_not ht]; decide))
    clear HA HBR
    generalize t.getD k 0 = y at *
    have hy : (y == 14) = false := beq_false_of_ne ht
    generalize l.getD k 0 = r at *
    go_wp2
    go_roundw
    case rel => exact ⟨k + 1, W, ps, g, cap, _, rfl, rfl, by go_num, by omega, HN, HS⟩
    case measure => simp [intOf]; omega
  ·obtain rfl : k = n := by omega
   have HFX : Hid (Br.FF l t = ps) := hide (by rw [HFF.out]; unfold Br.F; rw [HA.out])
   clear HA
   go_wp2
   rw [Exit.noGoto_ret]
   go_ret
   refine ⟨_, rfl, ?_, HS.out.old⟩
   rw [HFX.out]
   exact HS.out.ps
end Go.Proofs.YtfcoebbblfcdoaaGreatDoor

/- Pairs: the search, and the sort behind it: its contract. -/
namespace Go.Proofs
open Go.Shelf Go.RowKit Go.Lib Go.Sort
shelf_lay_g SlLaysF0.n6 Slsf 6 at Tryz 178 as Tryz.sortP
shelf_lay_g SlLaysC2.n5 Slgc 5 at Tryz 180 as Tryz.cmpInt
end Go.Proofs
namespace Go.Proofs.YtfcoebbblfcdoaaGreatDoor
open Go.Shelf Go.RowKit Go.Lib Go.Sort
set_option linter.unusedVariables false
set_option maxHeartbeats 1000000
set_option maxRecDepth 100000
def encP (x : Nat × Nat) : List Value := [.int .i64 (x.1 : Int), .int .i64 (x.2 : Int)]
def cfP (x y : Nat × Nat) : Int := Lib.compareInt (x.1 : Int) (y.1 : Int)
theorem ltP (x y : Nat × Nat) : ltOf cfP x y = decide (x.1 < y.1) := by
 unfold ltOf cfP Lib.compareInt
 by_cases h1 : x.1 < y.1
 ·have : (x.1 : Int) < (y.1 : Int) := by omega
  simp [h1]
 ·by_cases h2 : y.1 < x.1 <;> simp [h1, h2]
theorem swoP : SWO (ltOf cfP) where
 irrefl x := by rw [ltP]; simp
 trans x y z h1 h2 := by rw [ltP] at *; simp at *; omega
 ntrans x y z h1 h2 := by rw [ltP] at *; simp at *; omega
theorem cmpclos_any (x y : Nat × Nat) (W : World) : Calls Tryz.prog 179 #[.agg #[.int .i64 (x.1 : Int), .int .i64 (x.2 : Int)], .agg #[.int .i64 (y.1 : Int), .int .i64 (y.2 : Int)]] W fun e w' => e = .returned (.int .i64 (cfP x y)) /\ ∃ q os', w' = grow (W.drewN q) os' := by
 have hcon := fun W' => AnyG.cmp_Compare_int Tryz.cmpInt (x.1 : Int) (y.1 : Int) W'
 change ∀ W', Calls Tryz.prog 180 _ _ _ at hcon
 unfold cfP
 generalize Lib.compareInt (x.1 : Int) (y.1 : Int) = r at hcon ⊢
 go_enter Tryz.func179, Tryz.ntmps179
 go_wp2_with (go_at_call 180; refine (hcon _).mono ?_; rintro e w' ⟨rfl, rfl⟩)
 go_ret
 exact ⟨rfl, 0, _, by rw [alloc_eq_grow, alloc_eq_grow, grow_grow]; rfl⟩
theorem cmpLaysP (blk off size : Nat) (w : World) : CmpLays Tryz.prog 179 #[] encP 2 cfP blk off size w :=
 fun _ _ _ _ x y => cmpclos_any x y _
theorem below_sort {B g m : Nat} {W : World} (hB : B <= g) (hg : g < W.heap.size) (d : Array (Nat × Nat)) (os : Array Obj) : Below B W (sortWorldK encP 2 W g 0 m d os) := by
 refine ⟨rfl, rfl, rfl, ?_, fun k hk => ?_⟩
 ·simp [sortWorldK, grow, putRowK, putRow, mapBlock]
 ·have hlt : k < W.heap.size := by omega
  have hne : ¬ g = k := by omega
  simp [sortWorldK, grow, putRowK, putRow, mapBlock, Array.getElem?_append, hlt, Array.getElem_modify, hne]
theorem holds_of_owns {W : World} {base g cap : Nat} {ps : List (Nat × Nat)} (h : W.ownsRow base 140 2 (.slice (some ⟨g, 0, none⟩) ps.length cap) ps.length (flat2 ps)) : HoldsK encP 2 W g 0 ps.toArray := by
 intro j hj
 simp only [size_flatK, List.size_toArray] at hj
 have hfr : W.frozen? ⟨g, 0 + j, none⟩ = false := by
  rcases h.2 with ⟨h0, _⟩ | ⟨g', cap', cur, hv, _, hg, _⟩
  ·cases h0
  ·cases hv; simp [World.frozen?, hg]
 refine ⟨?_, hfr⟩
 rw [Nat.zero_add, h.cellAt j (by omega), get_flatK _ _ _ _ (by simpa using hj)]
 have hq : j / 2 < ps.length := by omega
 obtain ⟨f0, f1⟩ := flat2_at ps (j / 2) hq
 have hd : (ps.toArray)[j / 2]! = ps.getD (j / 2) (0, 0) := by
  simp [List.getD, List.getElem?_eq_getElem hq]
 rcases Nat.mod_two_eq_zero_or_one j with h0 | h0
 ·have e : j = j / 2 * 2 := by omega
  rw [h0, hd]
  rw [show (flat2 ps)[j]? = (flat2 ps)[j / 2 * 2]? from by rw [<- e], f0]
  rfl
 ·have e : j = j / 2 * 2 + 1 := by omega
  rw [h0, hd]
  rw [show (flat2 ps)[j]? = (flat2 ps)[j / 2 * 2 + 1]? from by rw [<- e], f1]
  rfl
theorem pairs_of_holds {W : World} {g cap : Nat} {ps : List (Nat × Nat)} (h : HoldsK encP 2 W g 0 ps.toArray) (hg : g < W.heap.size) (hc : ps.length <= cap) (hm : cap <= maxLen) : Pairs W (some ⟨g, 0, none⟩) ps.length cap ps := by
 refine ⟨rfl, hc, hm, fun h0 => ⟨g, rfl, hg, fun k hk => ?_⟩, fun h => by cases h⟩
 have hd : (ps.toArray)[k]! = ps.getD k (0, 0) := by simp [List.getD, List.getElem?_eq_getElem hk]
 have c0 := (HoldsK.cell h (i := k) (c := 0) (by simpa using hk) (by omega))
 have c1 := (HoldsK.cell h (i := k) (c := 1) (by simpa using hk) (by omega))
 rw [hd] at c0 c1
 simp only [Nat.zero_add, Nat.add_zero] at c0 c1
 exact ⟨c0.1, c1.1⟩
theorem sorted_is {l t : List Int} {d' : Array (Nat × Nat)} (hp : PermIn 0 (Br.FF l t).toArray.size (Br.FF l t).toArray d') (hs : SortedIn (ltOf cfP) 0 (Br.FF l t).toArray.size d') : d' = (Br.PP l t).toArray := by
 obtain ⟨h1, _, h3⟩ := hp
 have hsz : d'.size = (Br.FF l t).length := by simpa using h1
 have e1 : d'.extract 0 (Br.FF l t).toArray.size = d' := by rw [<- h1]; simp
 rw [e1] at h3
 have h4 : d'.toList.Perm (Br.FF l t) := by simpa using h3
 have h5 : d'.toList = Br.PP l t := by
  refine Br.PS_eq h4 ?_
  rw [List.pairwise_iff_getElem]
  intro i j hi hj hij
  have := hs i j (Nat.zero_le _) hij (by simp at hj ⊢; omega)
  rw [ltP] at this
  simp at hi hj
  rw [getElem!_pos d' j hj, getElem!_pos d' i hi] at this
  simpa using this
 rw [<- h5]
theorem pairs_ok (a0 a1 : Option Addr) (n c0 c1 : Nat) (l t : List Int) (w : World) (h0 : Row .i32 w a0 n c0 l) (h1 : Row .i64 w a1 n c1 t) (hf : ∀ x ∈ l, (Lit.int .i32 x).wf = true) (hm : Marks w) (hn : n * 8 <= 140737488351232) :
  Calls Tryz.prog 154 #[.slice a0 n c0, .slice a1 n c1] w fun e w' => ∃ ao cap, e = .returned (.tuple #[.slice ao (Br.PP l t).length cap, .int .i64 0]) /\ Pairs w' ao (Br.PP l t).length cap (Br.PP l t) /\ Below w.heap.size w w' := by
 have HB := hide (bsearch_any a0 a1 n c0 c1 l t w h0 h1 hf hm hn)
 have hlen : (Br.FF l t).length <= n := by rw [<- h0.len]; exact Br.F_len
 have hpl : (Br.PP l t).length = (Br.FF l t).length := Br.PS_len
 have eg : ∀ args w, (callFunc 179 args).run Tryz.prog w = .ok (.enter 179 args) w := enters_of Tryz.func179 (by kernel_rfl) rfl
 have HEG := hide eg
 have hle := h0.le
 have hmx := h0.max
 unfold maxLen at hmx
 clear h0 h1 hf hm eg
 go_enter Tryz.func154, Tryz.ntmps154
 go_wp2_with fail
 refine HB.out.mono ?_
 rintro e w1 ⟨v, rfl, ho, hb⟩
 obtain ⟨ao, cap, rfl, hcap⟩ := owns_form ho
 by_cases hz : (Br.FF l t).length = 0
 ·have hcon := AnyF.slices_SortFunc_none Tryz.sortP ao cap (.func (.func 179) #[] #[]) w1
  change Calls Tryz.prog 178 _ _ _ at hcon
  have hp0 : Br.PP l t = [] := List.length_eq_zero_iff.1 (by omega)
  obtain ⟨a2, c2, e2, hp⟩ := pairs_of_owns ho
  simp only [Value.slice.injEq] at e2
  obtain ⟨rfl, _, rfl⟩ := e2
  have hF0 : Br.FF l t = [] := List.length_eq_zero_iff.1 hz
  rw [hF0] at hp ⊢
  have HP := hide hp
  have HP0 := hide hp0
  have HBB := hide hb
  have HC := hide hcon
  clear hp hb ho hcon HB hp0 hF0 hz hcap hlen hpl
  simp only [List.length_nil]
  go_wp2_with (go_at_call 178; refine HC.out.mono ?_; rintro e w' ⟨rfl, rfl⟩)
  go_ret2
  exact ⟨ao, cap, by rw [HP0.out]; rfl, by rw [HP0.out]; exact HP.out, HBB.out⟩
 ·obtain ⟨g, cap2, e2, hbg, hle2⟩ := owns_pos ho (by omega)
  simp only [Value.slice.injEq] at e2
  obtain ⟨rfl, _, rfl⟩ := e2
  have hg : g < w1.heap.size := (ho.lt g rfl).2
  have hH := holds_of_owns ho
  have hcx : cap <= maxLen := by
   rcases ho.2 with ⟨h0, _⟩ | ⟨g', cap', cur, hv, _, _, _, h2, _⟩
   ·cases h0
   ·cases hv; exact h2
  have hcon := AnyQ.slices_SortFunc Tryz.sortP 2 Tryz.isAgg140 Tryz.sizeOf140 encP (fun _ => rfl) (fun x v hv => by simp [encP] at hv; rcases hv with rfl | rfl <;> rfl) cfP swoP 179 #[] g 0 cap (Br.FF l t).toArray w1 HEG.out (cmpLaysP g 0 _ w1) hH hg (by simp; omega)
  change Calls Tryz.prog 178 _ _ _ at hcon
  have HC : Hid (Calls Tryz.prog 178 #[.slice (some ⟨g, 0, none⟩) (Br.FF l t).length cap, .func (.func 179) #[] #[]] w1 fun e w' => e = .returned (.tuple #[]) /\ Pairs w' (some ⟨g, 0, none⟩) (Br.PP l t).length cap (Br.PP l t) /\ Below w.heap.size w w') := hide (by
   refine hcon.mono ?_
   rintro e w' ⟨rfl, d', m, os, hp, hs, rfl⟩
   have hd := sorted_is hp hs
   subst hd
   refine ⟨rfl, ?_, hb.trans (below_sort hbg hg _ _)⟩
   refine pairs_of_holds ?_ ?_ (by omega) hcx
   ·unfold sortWorldK
    exact holdsK_grow encP 2 _ _ g 0 _ (by simp [putRowK, putRow, mapBlock]; exact hg) (holdsK_putRowK encP 2 _ g 0 _ _ (holdsK_ahead encP 2 w1 m g 0 _ hH) (by simp; omega))
   ·have := (below_sort (m := m) (Nat.zero_le g) hg (Br.PP l t).toArray os).size
    omega)
  clear hcon hH ho hb HB hbg hg
  generalize (Br.FF l t).length = q at *
  go_wp2_with (go_at_call 178; refine HC.out.mono ?_; rintro e w' ⟨rfl, hp', hb'⟩)
  go_ret2
  exact ⟨_, cap, by rw [hpl]; rfl, hp', hb'⟩
theorem pairs_bad (a0 a1 : Option Addr) (n m c0 c1 : Nat) (w : World) (hne : ¬ n = m) (hn : n <= 9223372036854775807) (hm : m <= 9223372036854775807) :
  Calls Tryz.prog 154 #[.slice a0 n c0, .slice a1 m c1] w fun e w' => e = .returned (.tuple #[.slice none 0 0, .int .i64 2]) /\ w = w' := by
 have h1 : ((n : Int) == (m : Int)) = false := beq_false_of_ne (by omega)
 have h2 : ¬ (n : Int) = (m : Int) := by omega
 go_enter Tryz.func154, Tryz.ntmps154
 go_wp2
 go_ret2
 exact ⟨rfl, rfl⟩
end Go.Proofs.YtfcoebbblfcdoaaGreatDoor
