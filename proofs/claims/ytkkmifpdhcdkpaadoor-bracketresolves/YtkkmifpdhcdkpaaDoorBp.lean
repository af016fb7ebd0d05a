/- Pairs: the search, and the sort behind it: its contract. -/
import Derived.Test.YtkkmifpdhcdkpaaDoorBs
import Derived.Shelf.SlSortCmp.NoneTotal
import Derived.Shelf.SlicesG.Cmp
import Derived.Shelf.SlGeneric
import Derived.Shelf.Lay
import Derived.Ground.SlsfProg
import Derived.Ground.SlgcProg
namespace Go.Proofs
open Go.Shelf Go.RowKit Go.Lib Go.Sort
shelf_lay_g SlLaysF0.n6 Slsf 6 at Tryd 21 as Tryd.sortP
shelf_lay_g SlLaysC2.n5 Slgc 5 at Tryd 23 as Tryd.cmpInt
end Go.Proofs
namespace Go.Proofs.YtkkmifpdhcdkpaaDoor
open Go.Shelf Go.RowKit Go.Lib Go.Sort
set_option linter.unusedVariables false
set_option maxHeartbeats 1000000
set_option maxRecDepth 100000
/-- A pair's two cells. -/
def encP (x : Nat × Nat) : List Value := [.int .i64 (x.1 : Int), .int .i64 (x.2 : Int)]
def cfP (x y : Nat × Nat) : Int := Lib.compareInt (x.1 : Int) (y.1 : Int)
theorem ltP (x y : Nat × Nat) : ltOf cfP x y = decide (x.1 < y.1) := by
  unfold ltOf cfP Lib.compareInt
  by_cases h1 : x.1 < y.1
  · have : (x.1 : Int) < (y.1 : Int) := by omega
    simp [h1]
  · by_cases h2 : y.1 < x.1 <;> simp [h1, h2]
theorem swoP : SWO (ltOf cfP) where
  irrefl x := by rw [ltP]; simp
  trans x y z h1 h2 := by rw [ltP] at *; simp at *; omega
  ntrans x y z h1 h2 := by rw [ltP] at *; simp at *; omega
theorem cmpclos_any (x y : Nat × Nat) (W : World) : Calls Tryd.prog 22 #[.agg #[.int .i64 (x.1 : Int), .int .i64 (x.2 : Int)], .agg #[.int .i64 (y.1 : Int), .int .i64 (y.2 : Int)]] W fun e w' => e = .returned (.int .i64 (cfP x y)) ∧ ∃ q os', w' = grow (W.drewN q) os' := by
  have hcon := fun W' => AnyG.cmp_Compare_int Tryd.cmpInt (x.1 : Int) (y.1 : Int) W'
  change ∀ W', Calls Tryd.prog 23 _ _ _ at hcon
  unfold cfP
  generalize Lib.compareInt (x.1 : Int) (y.1 : Int) = r at hcon ⊢
  go_enter Tryd.func22, Tryd.ntmps22
  go_wp2_with (go_at_call 23; refine (hcon _).mono ?_; rintro e w' ⟨rfl, rfl⟩)
  go_ret
  exact ⟨rfl, 0, _, by rw [alloc_eq_grow, alloc_eq_grow, grow_grow]; rfl⟩
theorem cmpLaysP (blk off size : Nat) (w : World) : CmpLays Tryd.prog 22 #[] encP 2 cfP blk off size w :=
  fun _ _ _ _ x y => cmpclos_any x y _
theorem below_sort {B g m : Nat} {W : World} (hB : B ≤ g) (hg : g < W.heap.size) (d : Array (Nat × Nat)) (os : Array Obj) : Below B W (sortWorldK encP 2 W g 0 m d os) := by
  refine ⟨rfl, rfl, rfl, ?_, fun k hk => ?_⟩
  · simp [sortWorldK, grow, putRowK, putRow, mapBlock]
  · have hlt : k < W.heap.size := by omega
    have hne : ¬ g = k := by omega
    simp [sortWorldK, grow, putRowK, putRow, mapBlock, Array.getElem?_append, hlt, Array.getElem_modify, hne]
theorem holds_of_owns {W : World} {base g cap : Nat} {ps : List (Nat × Nat)} (h : W.ownsRow base 42 2 (.slice (some ⟨g, 0, none⟩) ps.length cap) ps.length (flat2 ps)) : HoldsK encP 2 W g 0 ps.toArray := by
  intro j hj
  simp only [size_flatK, List.size_toArray] at hj
  have hfr : W.frozen? ⟨g, 0 + j, none⟩ = false := by
    rcases h.2 with ⟨h0, _⟩ | ⟨g', cap', cur, hv, _, hg, _⟩
    · cases h0
    · cases hv; simp [World.frozen?, hg]
  refine ⟨?_, hfr⟩
  rw [Nat.zero_add, h.cellAt j (by omega), get_flatK _ _ _ _ (by simpa using hj)]
  have hq : j / 2 < ps.length := by omega
  obtain ⟨f0, f1⟩ := flat2_at ps (j / 2) hq
  have hd : (ps.toArray)[j / 2]! = ps.getD (j / 2) (0, 0) := by
    simp [List.getD, List.getElem?_eq_getElem hq]
  rcases Nat.mod_two_eq_zero_or_one j with h0 | h0
  · have e : j = j / 2 * 2 := by omega
    rw [h0, hd]
    rw [show (flat2 ps)[j]? = (flat2 ps)[j / 2 * 2]? from by rw [← e], f0]
    rfl
  · have e : j = j / 2 * 2 + 1 := by omega
    rw [h0, hd]
    rw [show (flat2 ps)[j]? = (flat2 ps)[j / 2 * 2 + 1]? from by rw [← e], f1]
    rfl
theorem pairs_of_holds {W : World} {g cap : Nat} {ps : List (Nat × Nat)} (h : HoldsK encP 2 W g 0 ps.toArray) (hg : g < W.heap.size) (hc : ps.length ≤ cap) (hm : cap ≤ maxLen) : Pairs W (some ⟨g, 0, none⟩) ps.length cap ps := by
  refine ⟨rfl, hc, hm, fun h0 => ⟨g, rfl, hg, fun k hk => ?_⟩, fun h => by cases h⟩
  have hd : (ps.toArray)[k]! = ps.getD k (0, 0) := by simp [List.getD, List.getElem?_eq_getElem hk]
  have c0 := (HoldsK.cell h (i := k) (c := 0) (by simpa using hk) (by omega))
  have c1 := (HoldsK.cell h (i := k) (c := 1) (by simpa using hk) (by omega))
  rw [hd] at c0 c1
  simp only [Nat.zero_add, Nat.add_zero] at c0 c1
  exact ⟨c0.1, c1.1⟩
theorem sorted_is {l t : List Int} {d' : Array (Nat × Nat)} (hp : PermIn 0 (Br.FF l t).toArray.size (Br.FF l t).toArray d') (hs : SortedIn (ltOf cfP) 0 (Br.FF l t).toArray.size d') : d' = (Br.PP l t).toArray := by
  obtain ⟨h1, _, h3⟩ := hp
  have hsz : d'.size = (Br.FF l t).length := by simpa using h1
  have e1 : d'.extract 0 (Br.FF l t).toArray.size = d' := by rw [← h1]; simp
  rw [e1] at h3
  have h4 : d'.toList.Perm (Br.FF l t) := by simpa using h3
  have h5 : d'.toList = Br.PP l t := by
    refine Br.PS_eq h4 ?_
    rw [List.pairwise_iff_getElem]
    intro i j hi hj hij
    have := hs i j (Nat.zero_le _) hij (by simp at hj ⊢; omega)
    rw [ltP] at this
    simp at hi hj
    rw [getElem!_pos d' j hj, getElem!_pos d' i hi] at this
    simpa using this
  rw [← h5]
theorem pairs_ok (a0 a1 : Option Addr) (n c0 c1 : Nat) (l t : List Int) (w : World) (h0 : Row .i32 w a0 n c0 l) (h1 : Row .i64 w a1 n c1 t) (hf : ∀ x ∈ l, (Lit.int .i32 x).wf = true) (hm : Marks w) (hn : n * 8 ≤ 140737488351232) :
    Calls Tryd.prog 10 #[.slice a0 n c0, .slice a1 n c1] w fun e w' => ∃ ao cap, e = .returned (.tuple #[.slice ao (Br.PP l t).length cap, .int .i64 0]) ∧ Pairs w' ao (Br.PP l t).length cap (Br.PP l t) ∧ Below w.heap.size w w' := by
  have HB := hide (bsearch_any a0 a1 n c0 c1 l t w h0 h1 hf hm hn)
  have hlen : (Br.FF l t).length ≤ n := by rw [← h0.len]; exact Br.F_len
  have hpl : (Br.PP l t).length = (Br.FF l t).length := Br.PS_len
  have eg : ∀ args w, (callFunc 22 args).run Tryd.prog w = .ok (.enter 22 args) w := enters_of Tryd.func22 (by kernel_rfl) rfl
  have HEG := hide eg
  have hle := h0.le
  have hmx := h0.max
  unfold maxLen at hmx
  clear h0 h1 hf hm eg
  go_enter Tryd.func10, Tryd.ntmps10
  go_wp2_with fail
  refine HB.out.mono ?_
  rintro e w1 ⟨v, rfl, ho, hb⟩
  obtain ⟨ao, cap, rfl, hcap⟩ := owns_form ho
  by_cases hz : (Br.FF l t).length = 0
  · have hcon := AnyF.slices_SortFunc_none Tryd.sortP ao cap (.func (.func 22) #[] #[]) w1
    change Calls Tryd.prog 21 _ _ _ at hcon
    have hp0 : Br.PP l t = [] := List.length_eq_zero_iff.1 (by omega)
    obtain ⟨a2, c2, e2, hp⟩ := pairs_of_owns ho
    simp only [Value.slice.injEq] at e2
    obtain ⟨rfl, _, rfl⟩ := e2
    have hF0 : Br.FF l t = [] := List.length_eq_zero_iff.1 hz
    rw [hF0] at hp ⊢
    have HP := hide hp
    have HP0 := hide hp0
    have HBB := hide hb
    have HC := hide hcon
    clear hp hb ho hcon HB hp0 hF0 hz hcap hlen hpl
    simp only [List.length_nil]
    go_wp2_with (go_at_call 21; refine HC.out.mono ?_; rintro e w' ⟨rfl, rfl⟩)
    go_ret2
    exact ⟨ao, cap, by rw [HP0.out]; rfl, by rw [HP0.out]; exact HP.out, HBB.out⟩
  · obtain ⟨g, cap2, e2, hbg, hle2⟩ := owns_pos ho (by omega)
    simp only [Value.slice.injEq] at e2
    obtain ⟨rfl, _, rfl⟩ := e2
    have hg : g < w1.heap.size := (ho.lt g rfl).2
    have hH := holds_of_owns ho
    have hcx : cap ≤ maxLen := by
      rcases ho.2 with ⟨h0, _⟩ | ⟨g', cap', cur, hv, _, _, _, h2, _⟩
      · cases h0
      · cases hv; exact h2
    have hcon := AnyQ.slices_SortFunc Tryd.sortP 2 Tryd.isAgg42 Tryd.sizeOf42 encP (fun _ => rfl) (fun x v hv => by simp [encP] at hv; rcases hv with rfl | rfl <;> rfl) cfP swoP 22 #[] g 0 cap (Br.FF l t).toArray w1 HEG.out (cmpLaysP g 0 _ w1) hH hg (by simp; omega)
    change Calls Tryd.prog 21 _ _ _ at hcon
    have HC : Hid (Calls Tryd.prog 21 #[.slice (some ⟨g, 0, none⟩) (Br.FF l t).length cap, .func (.func 22) #[] #[]] w1 fun e w' => e = .returned (.tuple #[]) ∧ Pairs w' (some ⟨g, 0, none⟩) (Br.PP l t).length cap (Br.PP l t) ∧ Below w.heap.size w w') := hide (by
      refine hcon.mono ?_
      rintro e w' ⟨rfl, d', m, os, hp, hs, rfl⟩
      have hd := sorted_is hp hs
      subst hd
      refine ⟨rfl, ?_, hb.trans (below_sort hbg hg _ _)⟩
      refine pairs_of_holds ?_ ?_ (by omega) hcx
      · unfold sortWorldK
        exact holdsK_grow encP 2 _ _ g 0 _ (by simp [putRowK, putRow, mapBlock]; exact hg) (holdsK_putRowK encP 2 _ g 0 _ _ (holdsK_ahead encP 2 w1 m g 0 _ hH) (by simp; omega))
      · have := (below_sort (m := m) (Nat.zero_le g) hg (Br.PP l t).toArray os).size
        omega)
    clear hcon hH ho hb HB hbg hg
    generalize (Br.FF l t).length = q at *
    go_wp2_with (go_at_call 21; refine HC.out.mono ?_; rintro e w' ⟨rfl, hp', hb'⟩)
    go_ret2
    exact ⟨_, cap, by rw [hpl]; rfl, hp', hb'⟩
theorem pairs_bad (a0 a1 : Option Addr) (n m c0 c1 : Nat) (w : World) (hne : ¬ n = m) (hn : n ≤ 9223372036854775807) (hm : m ≤ 9223372036854775807) :
    Calls Tryd.prog 10 #[.slice a0 n c0, .slice a1 m c1] w fun e w' => e = .returned (.tuple #[.slice none 0 0, .int .i64 2]) ∧ w = w' := by
  have h1 : ((n : Int) == (m : Int)) = false := beq_false_of_ne (by omega)
  have h2 : ¬ (n : Int) = (m : Int) := by omega
  go_enter Tryd.func10, Tryd.ntmps10
  go_wp2
  go_ret2
  exact ⟨rfl, rfl⟩
end Go.Proofs.YtkkmifpdhcdkpaaDoor
