import Derived.Test.YtmdmehopefgndaaGreatDoorRows
import Derived.Test.YtmdmehopefgndaaGreatDoorZ07
import Derived.Test.YtmdmehopefgndaaGreatDoorZ35
import Derived.Test.YtmdmehopefgndaaGreatDoorZ23
import Derived.Test.YtmdmehopefgndaaGreatDoorZ01
import Derived.Shelf.Abstract
import Derived.Shelf.RegionOpen
import Derived.WalkKit
import Derived.OwnWalkIn
import Derived.TacticsInMore
import Derived.LoopNIn
import Derived.LoopIn
import Derived.Test.YtmdmehopefgndaaGreatDoorZ20
import Derived.Laws.AppendOwnNone
import Derived.Deep.Slices
import Derived.Lib.SmallJoins
import Derived.Test.YtmdmehopefgndaaGreatDoorZ31
/- The runs of a range, told by a function over a range. -/
namespace Go.Proofs.YtmdmehopefgndaaGreatDoor
open Go.RowKit Go.Shelf
set_option linter.unusedVariables false
set_option maxHeartbeats 1000000
set_option maxRecDepth 100000
attribute [local go_sem] Oper.semAt_some
namespace Pk
/-- A column whose place lies in the range. -/
def qc (L : List Int) (f t : Int) (k : Nat) : Bool := decide (f ≤ L.getD k 0 ∧ L.getD k 0 < t)
end Pk
theorem pbuild_pair (x y : Int) (w : World) : (Instr.build 41 #[(0, .int .i64 x), (1, .int .i64 y)]).run Tryz.prog w = .ok (.agg #[.int .i64 x, .int .i64 y]) w := run_build w 41 _ _ (by kernel_rfl)
/-- What a run is handed on as. -/
def encRun (x : Nat × Nat) : Array Value := #[.agg #[.int .i64 (x.1 : Int), .int .i64 (x.2 : Int)]]
structure MO (Bl Bf Bt : Nat) (ao : Option Addr) (n cap : Nat) (L : List Int) (f t : Int) (X : World) : Prop where
  l : X.cell? ⟨Bl, 0, none⟩ = some (.slice ao n cap)
  f : X.cell? ⟨Bf, 0, none⟩ = some (.int .i64 f)
  t : X.cell? ⟨Bt, 0, none⟩ = some (.int .i64 t)
  row : Row .i64 X ao n cap L
theorem marked1_any (c : Bool) (Rel : Nat → World → World → Prop) (hRel : ∀ B X Y, Rel B X Y → X.heap.size ≤ Y.heap.size) (Bl Bf Bt : Nat) (ao : Option Addr) (n cap : Nat) (L : List Int) (f t : Int) :
    SeqG c Rel Tryz.prog 27 #[.pointer (some ⟨Bl, 0, none⟩), .pointer (some ⟨Bf, 0, none⟩), .pointer (some ⟨Bt, 0, none⟩)] encRun (Pk.RU (Pk.qc L f t) n) (MO Bl Bf Bt ao n cap L f t) := by
  intro m y J Jx W hOk hJ hJx hY h0
  have hm0 := hOk _ _ h0
  have cB := hm0.l
  have hle := hm0.row.le
  have hmax := hm0.row.max
  have hlen := hm0.row.len
  unfold maxLen at hmax
  have hbd := pbuild_pair
  obtain ⟨q, hq⟩ : ∃ q, Pk.qc L f t = q := ⟨_, rfl⟩
  have HQ := hide hq
  rw [hq] at hY ⊢
  obtain ⟨R, hR⟩ : ∃ R, Pk.RU q n = R := ⟨_, rfl⟩
  have HPR : Hid (∀ k, k ≤ n → Pk.yl q k <+: R) := hide (fun k hk => by rw [← hR]; exact Pk.yl_all hk)
  have HEND : Hid (R = if Pk.sb q n < n then Pk.yl q n ++ [(Pk.sb q n, n)] else Pk.yl q n) := hide (by rw [← hR]; exact Pk.yl_end)
  rw [hR] at hY ⊢
  have HOK := hide hOk
  have HJ := hide hJ
  have HJX := hide hJx
  have HY := hide hY
  have H0 := hide h0
  have HLEN := hide hlen
  clear hOk hJ hJx hY h0 hm0 hlen hq hR
  refine callsIn_of_wp Tryz.func27 rfl trivial ?_
  simp only [Tryz.ntmps27, List.size_toArray, List.length_cons, List.length_nil, Nat.reduceAdd, Nat.reduceSub, Array.replicate_succ, Array.replicate_zero, List.push_toArray, List.append_toArray, List.nil_append, List.cons_append]
  gi_wp2
  gi_loopw [5, 10] (fun b p wr => ∃ k : Nat, k ≤ n ∧ p = .int .i64 (k : Int) ∧ b = .int .i64 (Pk.sb q k : Int) ∧ W.heap.size ≤ wr.heap.size ∧ Hid (J (Pk.yl q k) wr)) (fun _ p _ => n - (intOf p).toNat)
  case atStart => exact ⟨0, Nat.zero_le _, rfl, rfl, Nat.le_refl _, hide H0.out⟩
  case round =>
    obtain ⟨k, hk, rfl, rfl, hsz, hJk⟩ := hrel
    have hmk := HOK.out _ _ hJk.out
    have hsl := Pk.sb_le (q := q) k
    by_cases hlt : k < n
    · obtain ⟨b, off, rfl, hbl, hc⟩ := hmk.row.cells (by omega)
      have hck := hc k (by rw [HLEN.out]; exact hlt)
      have cf := hmk.f
      have ct := hmk.t
      have hin : (k : Int) < (n : Int) := by omega
      have hqk : q k = decide (f ≤ L.getD k 0 ∧ L.getD k 0 < t) := by rw [← HQ.out]; rfl
      obtain ⟨x, hx⟩ : ∃ x, L.getD k 0 = x := ⟨_, rfl⟩
      rw [hx] at hck hqk
      obtain ⟨s, hs⟩ : ∃ s, Pk.sb q k = s := ⟨_, rfl⟩
      have HS := hide hs
      rw [hs] at hsl ⊢
      clear hx hs hc hmk cB
      by_cases hin2 : f ≤ x ∧ x < t
      · obtain ⟨h1, h2⟩ := hin2
        have hqt : q k = true := by rw [hqk]; exact decide_eq_true ⟨h1, h2⟩
        have HSN := hide (Pk.sb_in hqt)
        have HYN := hide (Pk.yl_in hqt)
        clear hqk hqt
        gi_wp2
        go_roundw
        case rel => exact ⟨k + 1, by omega, by go_num, by rw [HSN.out, HS.out], hsz, by rw [HYN.out]; exact hJk⟩
        case measure => simp [intOf]; omega
      · have hqf : ¬ q k = true := by rw [hqk]; simpa using hin2
        have HSN := hide (Pk.sb_out hqf)
        have HYP := hide (Pk.yl_put hqf)
        have HYS := hide (Pk.yl_same hqf)
        have HPK := hide (HPR.out (k + 1) (by omega))
        have hor : (f ≤ x ∧ ¬ x < t) ∨ ¬ f ≤ x := by omega
        clear hqk hin2 hqf
        rcases hor with ⟨hf, ht⟩ | hf
        all_goals (
          by_cases hsk : s < k
          · have hski : (s : Int) < (k : Int) := by omega
            have h3 := HYP.out (by rw [HS.out]; exact hsk)
            rw [HS.out] at h3
            have hpre := HPK.out
            rw [h3] at hpre
            obtain ⟨fn, tmps, assign, body, hy, hR⟩ := HY.out (m - 1) _ (s, k) wr hJk.out hpre hsz
            have HY3 := hide h3
            rw [← h3] at hR
            unfold encRun at hy
            dsimp only at hy
            clear hpre h3
            gi_wp2_with fail
            refine ⟨fun h => (by cases h), ?_⟩
            refine hR.mono ?_
            rintro e W3 ⟨hbey, (⟨rfl, hJ3⟩ | ⟨rfl, hJx3⟩)⟩
            · have HJ3 := hide hJ3
              clear hJ3
              gi_wp2
              go_roundw
              case rel => exact ⟨k + 1, by omega, by go_num, by rw [HSN.out]; go_num, Nat.le_trans hsz (hRel _ _ _ hbey), HJ3⟩
              case measure => simp [intOf]; omega
            · gi_wp2
              refine bodyPost_ret (results_none rfl _ _ _) rfl ?_
              exact ⟨⟨_, rfl⟩, Nat.le_trans hsz (hRel _ _ _ hbey), .inr ⟨_, HPK.out, hJx3⟩⟩
          · have hski : ¬ (s : Int) < (k : Int) := by omega
            have h3 := hide (HYS.out (by rw [HS.out]; exact hsk))
            gi_wp2
            refine ⟨fun _ h => (by cases h), ?_⟩
            gi_wp2
            go_roundw
            case rel => exact ⟨k + 1, by omega, by go_num, by rw [HSN.out]; go_num, hsz, by rw [h3.out]; exact hJk⟩
            case measure => simp [intOf]; omega)
    · obtain rfl : k = n := by omega
      have hlt' : ¬ (k : Int) < (k : Int) := by omega
      obtain ⟨s, hs⟩ : ∃ s, Pk.sb q k = s := ⟨_, rfl⟩
      have hend := HEND.out
      rw [hs] at hsl hend ⊢
      by_cases hsk : s < k
      · have hski : (s : Int) < (k : Int) := by omega
        rw [if_pos hsk] at hend
        obtain ⟨fn, tmps, assign, body, hy, hR⟩ := HY.out (m - 1) _ (s, k) wr hJk.out (by rw [hend]; exact List.prefix_refl _) hsz
        rw [← hend] at hR
        unfold encRun at hy
        dsimp only at hy
        have cl := hmk.l
        clear hmk hs hend cB
        gi_wp2_with fail
        refine ⟨fun h => (by cases h), ?_⟩
        refine hR.mono ?_
        rintro e W3 ⟨hbey, (⟨rfl, hJ3⟩ | ⟨rfl, hJx3⟩)⟩
        · gi_wp2
          go_end0
          exact ⟨⟨_, rfl⟩, Nat.le_trans hsz (hRel _ _ _ hbey), .inl hJ3⟩
        · gi_wp2
          go_end0
          exact ⟨⟨_, rfl⟩, Nat.le_trans hsz (hRel _ _ _ hbey), .inr ⟨_, List.prefix_refl _, hJx3⟩⟩
      · have hski : ¬ (s : Int) < (k : Int) := by omega
        rw [if_neg hsk] at hend
        have cl := hmk.l
        have HE := hide hend
        clear hmk hs hend cB
        gi_wp2
        go_end0
        exact ⟨⟨_, rfl⟩, hsz, .inl (by rw [HE.out]; exact hJk.out)⟩
theorem marked1_far (Bl Bf Bt : Nat) (ao : Option Addr) (n cap : Nat) (L : List Int) (f t : Int) :
    SeqG true Far Tryz.prog 27 #[.pointer (some ⟨Bl, 0, none⟩), .pointer (some ⟨Bf, 0, none⟩), .pointer (some ⟨Bt, 0, none⟩)] encRun (Pk.RU (Pk.qc L f t) n) (MO Bl Bf Bt ao n cap L f t) := marked1_any true Far (fun _ _ _ h => h.size) Bl Bf Bt ao n cap L f t
theorem marked_any (ao : Option Addr) (n cap : Nat) (f t : Int) (w : World) :
    Calls Tryz.prog 11 #[.slice ao n cap, .int .i64 f, .int .i64 t] w fun e w' => e = .returned (.func (.func 27) #[] #[.pointer (some ⟨w.heap.size, 0, none⟩), .pointer (some ⟨w.heap.size + 1, 0, none⟩), .pointer (some ⟨w.heap.size + 2, 0, none⟩)]) ∧ w' = ((w.alloc (.cells #[.slice ao n cap] 27)).alloc (.cells #[.int .i64 f] 3)).alloc (.cells #[.int .i64 t] 3) := by
  go_enter Tryz.func11, Tryz.ntmps11
  go_wp2
  go_ret
  exact ⟨by simp, rfl⟩
end Go.Proofs.YtmdmehopefgndaaGreatDoor

/- Runs by their places in the list; how many of them have a column: plain mathematics. -/
namespace Go.Proofs.YtmdmehopefgndaaGreatDoor
set_option linter.unusedVariables false
namespace Pk
section
variable {q : Nat → Bool} {m : Nat}
theorem RU_at {k : Nat} (h : k < (RU q m).length) : (RU q m).getD k (0, 0) ∈ RU q m := by
  have : (RU q m).getD k (0, 0) = (RU q m)[k] := by simp [List.getD, h]
  rw [this]; exact List.getElem_mem h
theorem RU_next {k : Nat} (h : k + 1 < (RU q m).length) : ((RU q m).getD k (0, 0)).2 < ((RU q m).getD (k + 1) (0, 0)).1 := by
  have := List.pairwise_iff_getElem.1 (RU_rise q m) k (k + 1) (by omega) h (by omega)
  simpa [List.getD, h, show k < (RU q m).length by omega] using this
end
theorem qc_iff {L : List Int} {f t : Int} {k : Nat} : qc L f t k = true ↔ f ≤ L.getD k 0 ∧ L.getD k 0 < t := by unfold qc; simp
/-- How many of the first i runs have column j. -/
def cn (P : List (Nat × Nat)) : Nat → Nat → Nat
  | 0, _ => 0
  | i + 1, j => cn P i j + if (P.getD i (0, 0)).1 ≤ j ∧ j < (P.getD i (0, 0)).2 then 1 else 0
theorem cn_none {P : List (Nat × Nat)} {j : Nat} : ∀ i, (∀ k, k < i → ¬ ((P.getD k (0, 0)).1 ≤ j ∧ j < (P.getD k (0, 0)).2)) → cn P i j = 0
  | 0, _ => rfl
  | i + 1, h => by
    rw [cn, cn_none i (fun k hk => h k (by omega)), if_neg (h i (by omega))]
section
variable {q : Nat → Bool} {m : Nat}
theorem RU_apart {i k : Nat} (hik : i < k) (hk : k < (RU q m).length) : ((RU q m).getD i (0, 0)).2 < ((RU q m).getD k (0, 0)).1 := by
  have := List.pairwise_iff_getElem.1 (RU_rise q m) i k (by omega) hk hik
  simpa [List.getD, hk, show i < (RU q m).length by omega] using this
/-- In a run, none of those ahead has the column. -/
theorem cn_ahead {i j : Nat} (hi : i < (RU q m).length) (h : ((RU q m).getD i (0, 0)).1 ≤ j) : cn (RU q m) i j = 0 := by
  refine cn_none i fun k hk h2 => ?_
  have := RU_apart hk hi
  omega
theorem cn_le {j : Nat} : ∀ i, i ≤ (RU q m).length → cn (RU q m) i j ≤ 1
  | 0, _ => Nat.zero_le _
  | i + 1, h => by
    rw [cn]
    by_cases h1 : ((RU q m).getD i (0, 0)).1 ≤ j ∧ j < ((RU q m).getD i (0, 0)).2
    · rw [if_pos h1, cn_ahead (by omega) h1.1]; omega
    · rw [if_neg h1]; exact cn_le i (by omega)
theorem cn_has {j : Nat} : ∀ i, i ≤ (RU q m).length → (cn (RU q m) i j = 1 ↔ ∃ k, k < i ∧ ((RU q m).getD k (0, 0)).1 ≤ j ∧ j < ((RU q m).getD k (0, 0)).2)
  | 0, _ => by
    constructor
    · intro h; cases h
    · rintro ⟨k, hk, _⟩; omega
  | i + 1, h => by
    rw [cn]
    by_cases h1 : ((RU q m).getD i (0, 0)).1 ≤ j ∧ j < ((RU q m).getD i (0, 0)).2
    · rw [if_pos h1, cn_ahead (by omega) h1.1]
      exact ⟨fun _ => ⟨i, by omega, h1⟩, fun _ => rfl⟩
    · rw [if_neg h1, Nat.add_zero, cn_has i (by omega)]
      constructor
      · rintro ⟨k, hk, g⟩; exact ⟨k, by omega, g⟩
      · rintro ⟨k, hk, g⟩
        refine ⟨k, ?_, g⟩
        by_cases e : k = i
        · subst e; exact absurd g h1
        · omega
theorem cn_all (j : Nat) : cn (RU q m) (RU q m).length j = if j < m ∧ q j = true then 1 else 0 := by
  have h1 := cn_le (q := q) (m := m) (j := j) _ (Nat.le_refl _)
  have h2 := cn_has (q := q) (m := m) (j := j) _ (Nat.le_refl _)
  by_cases h : j < m ∧ q j = true
  · rw [if_pos h]
    obtain ⟨p, g1, g2, g3⟩ := (RU_in h.1).1 h.2
    obtain ⟨k, hk, rfl⟩ := List.mem_iff_getElem.1 g1
    exact h2.2 ⟨k, hk, by simp only [List.getD, List.getElem?_eq_getElem hk, Option.getD_some]; exact g2, by simp only [List.getD, List.getElem?_eq_getElem hk, Option.getD_some]; exact g3⟩
  · rw [if_neg h]
    have h3 : ¬ cn (RU q m) (RU q m).length j = 1 := fun g => by
      obtain ⟨k, hk, g1, g2⟩ := h2.1 g
      have hr := RU_run (RU_at hk)
      exact h ⟨by omega, hr.2.2.1 j g1 g2⟩
    omega
end
end Pk
end Go.Proofs.YtmdmehopefgndaaGreatDoor

/- Slices of pairs of whole numbers, wherever they lie: an argument's reading; a copy; what a call owns. -/
namespace Go.Proofs.YtmdmehopefgndaaGreatDoor
open Go.ChangeShapes Go.WideShapes Go.ChangeAt Go.RowKit Go.Deep
set_option linter.unusedVariables false
set_option maxRecDepth 100000
/-- The cells of pairs. -/
def flz (Z : List (Int × Int)) : List Value := Z.flatMap fun x => [.int .i64 x.1, .int .i64 x.2]
theorem flz_len (Z : List (Int × Int)) : (flz Z).length = Z.length * 2 := by
  induction Z with
  | nil => rfl
  | cons x Z ih => rw [flz, List.flatMap_cons, List.length_append, ← flz, ih]; simp; omega
theorem flz_snoc (Z : List (Int × Int)) (x : Int × Int) : flz (Z ++ [x]) = flz Z ++ [.int .i64 x.1, .int .i64 x.2] := by
  rw [flz, List.flatMap_append]; simp [flz]
theorem flz_at (Z : List (Int × Int)) (k : Nat) (h : k < Z.length) : (flz Z)[k * 2]? = some (.int .i64 (Z.getD k (0, 0)).1) ∧ (flz Z)[k * 2 + 1]? = some (.int .i64 (Z.getD k (0, 0)).2) := by
  induction Z generalizing k with
  | nil => simp at h
  | cons x Z ih =>
    rw [flz, List.flatMap_cons, ← flz]
    cases k with
    | zero => simp
    | succ k =>
      have := ih k (by simpa using h)
      rw [show (k + 1) * 2 = k * 2 + 2 from by omega]
      rw [List.getElem?_append_right (by simp), List.getElem?_append_right (by simp)]
      simpa using this
/-- Pairs of places, as pairs of whole numbers. -/
def zi (ps : List (Nat × Nat)) : List (Int × Int) := ps.map fun x => ((x.1 : Int), (x.2 : Int))
theorem zi_len (ps : List (Nat × Nat)) : (zi ps).length = ps.length := by simp [zi]
theorem zi_at (ps : List (Nat × Nat)) (k : Nat) : (zi ps).getD k (0, 0) = (((ps.getD k (0, 0)).1 : Int), ((ps.getD k (0, 0)).2 : Int)) := by
  unfold zi
  simp only [List.getD, List.getElem?_map]
  cases ps[k]? <;> rfl
/-- A slice that holds these pairs. -/
structure PI (w : World) (ao : Option Addr) (n cap : Nat) (Z : List (Int × Int)) : Prop where
  len : Z.length = n
  le : n ≤ cap
  max : cap ≤ maxLen
  cells : 0 < n → ∃ b off, ao = some ⟨b, off, none⟩ ∧ b < w.heap.size ∧ ∀ k, k < n → w.cell? ⟨b, off + k * 2, none⟩ = some (.int .i64 (Z.getD k (0, 0)).1) ∧ w.cell? ⟨b, off + k * 2 + 1, none⟩ = some (.int .i64 (Z.getD k (0, 0)).2)
  nil : ao = none → cap = 0
theorem PI.below {w w' : World} {ao : Option Addr} {n cap : Nat} {Z : List (Int × Int)} (h : PI w ao n cap Z) (hb : KO w w') : PI w' ao n cap Z :=
  ⟨h.len, h.le, h.max, fun h0 => by
    obtain ⟨b, off, e1, e2, e3⟩ := h.cells h0
    exact ⟨b, off, e1, Nat.lt_of_lt_of_le e2 (Below.size hb), fun k hk => ⟨(Below.cell hb (by exact e2)).trans (e3 k hk).1, (Below.cell hb (by exact e2)).trans (e3 k hk).2⟩⟩, h.nil⟩
theorem pi_nil (w : World) : PI w none 0 0 [] := ⟨rfl, Nat.le_refl _, Nat.zero_le _, fun h => by omega, fun _ => rfl⟩
theorem pi_of_owns {w : World} {base e n : Nat} {v : Value} {Z : List (Int × Int)} (h : w.ownsRow base e 2 v n (flz Z)) : ∃ ao cap, v = .slice ao n cap ∧ PI w ao n cap Z := by
  have hl : Z.length = n := by have := h.1; rw [flz_len] at this; omega
  rcases h.2 with ⟨rfl, rfl⟩ | ⟨g, cap, cur, rfl, hb, hg, hn, hc, hs, ht⟩
  · exact ⟨none, 0, rfl, hl, Nat.le_refl _, Nat.zero_le _, fun h0 => by omega, fun _ => rfl⟩
  · refine ⟨_, cap, rfl, hl, hn, hc, fun h0 => ⟨g, 0, rfl, (Array.getElem?_eq_some_iff.1 hg).1, fun k hk => ?_⟩, fun h => by cases h⟩
    have := flz_at Z k (by omega)
    rw [Nat.zero_add]
    exact ⟨(h.cellAt (k * 2) (by omega)).trans this.1, (h.cellAt (k * 2 + 1) (by omega)).trans this.2⟩
theorem pi_of_pairs {w : World} {ao : Option Addr} {n cap : Nat} {ps : List (Nat × Nat)} (h : Pairs w ao n cap ps) : PI w ao n cap (zi ps) :=
  ⟨by rw [zi_len]; exact h.len, h.le, h.max, fun h0 => by
    obtain ⟨b, e1, e2, e3⟩ := h.cells h0
    refine ⟨b, 0, e1, e2, fun k hk => ?_⟩
    rw [zi_at, Nat.zero_add]
    exact e3 k hk, h.nil⟩
/-- The cells of a slice, as an append reads them. -/
theorem PI.news {w : World} {b off n cap : Nat} {o : Option Nat} {Z : List (Int × Int)} (h : PI w (some ⟨b, off, o⟩) n cap Z) : ∀ j u, (flz Z)[j]? = some u → w.cell? ((⟨b, off, o⟩ : Addr).add j) = some u := by
  intro j u hj
  have hl := h.len
  have hjl : j < n * 2 := by
    have := (List.getElem?_eq_some_iff.1 hj).1
    rw [flz_len] at this
    omega
  obtain ⟨b', off', e1, _, e3⟩ := h.cells (by omega)
  simp only [Option.some.injEq, Addr.mk.injEq] at e1
  obtain ⟨rfl, rfl, rfl⟩ := e1
  have hadd : (⟨b, off, none⟩ : Addr).add j = ⟨b, off + j, none⟩ := by unfold Addr.add; split <;> simp_all
  rw [hadd]
  have hat := flz_at Z (j / 2) (by omega)
  have hc := e3 (j / 2) (by omega)
  rcases Nat.mod_two_eq_zero_or_one j with h0 | h0
  · rw [show j = j / 2 * 2 from by omega] at hj ⊢
    rw [hat.1, Option.some.injEq] at hj
    rw [hc.1, hj]
  · rw [show j = j / 2 * 2 + 1 from by omega] at hj ⊢
    rw [hat.2, Option.some.injEq] at hj
    rw [← Nat.add_assoc, hc.2, hj]
theorem flz_one (Z : List (Int × Int)) : ∀ u ∈ flz Z, u.oneCell' = true := by
  intro u hu
  unfold flz at hu
  obtain ⟨x, _, hx⟩ := List.mem_flatMap.1 hu
  simp only [List.mem_cons, List.not_mem_nil, or_false] at hx
  rcases hx with rfl | rfl <;> rfl
/-- AN ARGUMENT THAT IS A LIST OF PAIRS. -/
theorem pcells16 : Tryz.prog.cellsOf 41 = 2 := by kernel_rfl
theorem icells16 : Tryz.prog.cellsOf 3 = 1 := by kernel_rfl
theorem pair_parts {H : Type} {enc : TypeId × Value → H} {W : World} {fuel : Nat} {cs : List Value} {x : DataW H × List MemPlace} (hl : cs.length = 2)
    (h : DataW.trod enc Tryz.prog W 0 (fun _ => true) true fuel 41 cs = some x) : ∃ p q : Int, cs = [.int .i64 p, .int .i64 q] ∧ (Lit.int .i64 p).wf = true ∧ (Lit.int .i64 q).wf = true := by
  obtain ⟨c0, c1, rfl⟩ : ∃ c0 c1, cs = [c0, c1] := by
    match cs, hl with
    | [a, b], _ => exact ⟨a, b, rfl⟩
  cases fuel with
  | zero => simp [DataW.trod] at h
  | succ n =>
    simp only [DataW.trod, Tryz.underlying41, pcells16, icells16] at h
    rw [if_pos (by rfl)] at h
    obtain ⟨xs, hm, hx⟩ := Option.map_eq_some_iff.1 h
    have hl : xs.length = 2 := by simpa using Lib.mapM_length hm
    obtain ⟨y0, y1, rfl⟩ : ∃ y0 y1, xs = [y0, y1] := by
      match xs, hl with
      | [a, b], _ => exact ⟨a, b, rfl⟩
    obtain ⟨q0, h0, g0⟩ := Lib.mapM_at hm 0 0 (by simp)
    obtain ⟨q1, h1, g1⟩ := Lib.mapM_at hm 1 1 (by simp)
    simp at h0 h1
    subst h0 h1
    obtain ⟨p, e0, _, w0⟩ := DataW.trod_int Tryz.underlying3 (by simpa using g0)
    obtain ⟨q, e1, _, w1⟩ := DataW.trod_int Tryz.underlying3 (by simpa using g1)
    simp only [List.cons.injEq, and_true] at e0 e1
    exact ⟨p, q, by rw [e0, e1], w0, w1⟩
theorem open_pairs {H : Type} {enc : TypeId × Value → H} {W : World} {a : Option Addr} {len cap : Nat} {d : DataW H} {p : List MemPlace}
    (h : DataW.Trod enc Tryz.prog W 0 (fun _ => true) true 23 (.slice a len cap) d p) : ∃ Z, PI W a len cap Z ∧ ∀ k, (Lit.int .i64 (Z.getD k (0, 0)).1).wf = true ∧ (Lit.int .i64 (Z.getD k (0, 0)).2).wf = true := by
  obtain ⟨fuel, hf⟩ := h
  rcases open_slice Tryz.underlying23 hf with ⟨hcs, _⟩ | ⟨x, l, c, m, n, D, Pl, hcs, _, hl, hm, hmm, _, hx⟩
  · simp [Value.cells] at hcs
    obtain ⟨rfl, rfl, rfl⟩ := hcs
    exact ⟨[], pi_nil _, fun k => by simp [List.getD]; decide⟩
  · simp [Value.cells] at hcs
    obtain ⟨rfl, rfl, rfl⟩ := hcs
    simp only [if_true] at hmm
    subst hmm
    have key : ∀ i, i < len → ∃ p q : Int, (∀ j, j < 2 → W.cell? (x.add (i * 2 + j)) = [Value.int .i64 p, .int .i64 q][j]?) ∧ (Lit.int .i64 p).wf = true ∧ (Lit.int .i64 q).wf = true := by
      intro i hi
      obtain ⟨cs', h1, h2⟩ := hx i (by omega)
      rw [pcells16] at h1
      obtain ⟨_, hlen, hcell⟩ := World.cells?_some h1
      obtain ⟨p, q, rfl, w0, w1⟩ := pair_parts hlen h2
      exact ⟨p, q, fun j hj => by have := hcell j hj; rw [add_add] at this; exact this, w0, w1⟩
    obtain ⟨b, off, spot⟩ := x
    rcases Nat.eq_zero_or_pos len with h0 | h0
    · subst h0
      exact ⟨[], ⟨rfl, hl, hm, fun h => by omega, fun h => by cases h⟩, fun k => by simp [List.getD]; decide⟩
    · have hs : spot = none := by
        obtain ⟨p, q, hc, _⟩ := key 0 h0
        have hc0 := hc 0 (by omega)
        simpa [Addr.add] using World.cell?_spot hc0
      subst hs
      have hb : b < W.heap.size := by
        obtain ⟨p, q, hc, _⟩ := key 0 h0
        have hc0 := hc 0 (by omega)
        simpa [Addr.add] using World.block_lt_of_cell? W _ hc0
      have hadd : ∀ j, (⟨b, off, none⟩ : Addr).add j = ⟨b, off + j, none⟩ := fun j => by unfold Addr.add; split <;> simp_all
      have hex : ∀ i : Nat, ∃ z : Int × Int, i < len → (W.cell? ⟨b, off + i * 2, none⟩ = some (.int .i64 z.1) ∧ W.cell? ⟨b, off + i * 2 + 1, none⟩ = some (.int .i64 z.2) ∧ (Lit.int .i64 z.1).wf = true ∧ (Lit.int .i64 z.2).wf = true) := by
        intro i
        by_cases hi : i < len
        · obtain ⟨p, q, hc, w0, w1⟩ := key i hi
          refine ⟨(p, q), fun _ => ⟨?_, ?_, w0, w1⟩⟩
          · have := hc 0 (by omega); rw [hadd] at this; simpa using this
          · have := hc 1 (by omega); rw [hadd] at this; rw [Nat.add_assoc]; simpa using this
        · exact ⟨(0, 0), fun h => absurd h hi⟩
      have hf := fun i => Classical.choose_spec (hex i)
      refine ⟨(List.range len).map fun i => Classical.choose (hex i), ⟨by simp, hl, hm, fun _ => ⟨b, off, rfl, hb, fun k hk => ?_⟩, fun h => by cases h⟩, fun k => ?_⟩
      · have := hf k hk
        simp only [List.getD, List.getElem?_map, List.getElem?_range hk, Option.map_some, Option.getD_some]
        exact ⟨this.1, this.2.1⟩
      · by_cases hk : k < len
        · have := hf k hk
          simp only [List.getD, List.getElem?_map, List.getElem?_range hk, Option.map_some, Option.getD_some]
          exact this.2.2
        · simp only [List.getD]
          rw [List.getElem?_eq_none (by simp; omega)]
          simp; decide
end Go.Proofs.YtmdmehopefgndaaGreatDoor

/- Runs: the columns of a range, by contract. -/
namespace Go.Proofs.YtmdmehopefgndaaGreatDoor
open Go.RowKit Go.Shelf
set_option linter.unusedVariables false
set_option maxHeartbeats 1000000
set_option maxRecDepth 100000
attribute [local go_sem] Oper.semAt_some
theorem pair_new16 {X0 X : World} {a b : Value} {t : TypeId} (h : ∀ k, X0.heap.size ≤ k → X.heap[k]? = (X0.alloc (.cells #[a, b] t)).heap[k]?) : X.heap[X0.heap.size]? = some (.cells #[a, b] t (0, 0)) := by
  rw [h _ (Nat.le_refl _)]; exact World.alloc_heap_new X0 _
theorem cell_of_two16 {X : World} {g : Nat} {a b : Value} {t : TypeId} (h : X.heap[g]? = some (.cells #[a, b] t (0, 0))) (j : Nat) : X.cell? ⟨g, j, none⟩ = (#[a, b] : Array Value)[j]? := by
  simp [World.cell?, h]
theorem owns_ch16 {B : Nat} {X Y : World} {base e size n : Nat} {v : Value} {xs : List Value} (h : X.ownsRow base e size v n xs) (hc : Ch true B X Y) : Y.ownsRow base e size v n xs := by
  refine ⟨h.1, ?_⟩
  rcases h.2 with hn | ⟨g, cap, cur, rfl, hbs, hg, rest⟩
  · exact .inl hn
  · exact .inr ⟨g, cap, cur, rfl, hbs, hc.cells rfl _ _ hg rfl, rest⟩
/-- What Runs answers. -/
def PRA (l : List Int) (f t : Int) (R : List (Nat × Nat)) (E : Int) : Prop :=
  (Od.Fo l ∧ (0 ≤ f ∧ t ≤ (l.length : Int) ∧ f ≤ t) ∧ R = Pk.RU (Pk.qc (Od.ON l) f t) (Od.ON l).length ∧ E = 0) ∨ (¬ Od.Fo l ∧ R = [] ∧ E = 2) ∨ (Od.Fo l ∧ ¬ (0 ≤ f ∧ t ≤ (l.length : Int) ∧ f ≤ t) ∧ R = [] ∧ E = 4)
theorem PRA_some (l : List Int) (f t : Int) : ∃ R E, PRA l f t R E := by
  by_cases h : Od.Fo l
  · by_cases h2 : 0 ≤ f ∧ t ≤ (l.length : Int) ∧ f ≤ t
    · exact ⟨_, _, .inl ⟨h, h2, rfl, rfl⟩⟩
    · exact ⟨_, _, .inr (.inr ⟨h, h2, rfl, rfl⟩)⟩
  · exact ⟨_, _, .inr (.inl ⟨h, rfl, rfl⟩)⟩
theorem PRA_len {l : List Int} {f t : Int} {R : List (Nat × Nat)} {E : Int} (h : PRA l f t R E) : 2 * R.length ≤ l.length + 1 := by
  rcases h with ⟨_, _, h, _⟩ | ⟨_, h, _⟩ | ⟨_, _, h, _⟩
  · have h1 := Pk.RU_len (q := Pk.qc (Od.ON l) f t) (m := (Od.ON l).length)
    have h2 := Od.K_le l
    rw [h]
    rw [Od.ON_len, Od.OD_len] at h1 ⊢
    omega
  · rw [h]; simp
  · rw [h]; simp
/-- What Runs keeps while it ranges. -/
structure RMid (w : World) (s : Nat) (ao : Option Addr) (n cap : Nat) (f t : Int) (pre : List (Nat × Nat)) (W : World) : Prop where
  row : ∃ v, Boxed W s 23 v ∧ W.ownsRow s 41 2 v pre.length (flat2 pre)
  b1 : Boxed W (s + 1) 27 (.slice ao n cap)
  b2 : Boxed W (s + 2) 3 (.int .i64 f)
  b3 : Boxed W (s + 3) 3 (.int .i64 t)
  old : Below s w W
theorem RMid.ch {w : World} {s : Nat} {ao : Option Addr} {n cap : Nat} {f t : Int} {pre : List (Nat × Nat)} {X Y : World} {B : Nat} (h : RMid w s ao n cap f t pre X) (hc : Ch true B X Y) (hB : s ≤ B) : RMid w s ao n cap f t pre Y := by
  obtain ⟨v, hb, ho⟩ := h.row
  exact ⟨⟨v, hc.cells rfl _ _ hb rfl, owns_ch16 ho hc⟩, hc.cells rfl _ _ h.b1 rfl, hc.cells rfl _ _ h.b2 rfl, hc.cells rfl _ _ h.b3 rfl, h.old.trans (hc.below.mono hB)⟩
theorem pruns_bad (ao : Option Addr) (n cap : Nat) (l : List Int) (f t : Int) (w : World) (h : Row .i64 w ao n cap l) (hn : n * 8 ≤ 140737488351232) (E : Int) (hA : PRA l f t [] E) (hE : ¬ E = 0) :
    Calls Tryz.prog 4 #[.slice ao n cap, .int .i64 f, .int .i64 t] w fun e w' => e = .returned (.tuple #[.slice none 0 0, .int .i64 E]) ∧ KO w w' := by
  have hl := h.len
  rcases hA with ⟨_, _, _, h0⟩ | ⟨hf, _, rfl⟩ | ⟨hf, hr, _, rfl⟩
  · exact absurd h0 hE
  · have HO := hide (order_any ao n cap l w h (by omega) [] 2 (.inr ⟨hf, rfl, rfl⟩))
    simp only [List.length_nil] at HO
    clear h hf hE
    go_enter Tryz.func4, Tryz.ntmps4
    go_wp2_with fail
    refine HO.out.mono ?_
    rintro e w1 ⟨a1, c1, rfl, hr1, hk1⟩
    have K1 := hide hk1
    clear hr1 hk1 HO
    go_wp2
    go_ret2
    exact ⟨rfl, K1.out⟩
  · have HO := hide (order_any ao n cap l w h (by omega) (Od.ON l) 0 (.inl ⟨hf, rfl, rfl⟩))
    rw [hl] at hr
    clear h hf hE hl
    generalize Od.ON l = L at *
    have hor : f < 0 ∨ (¬ f < 0 ∧ (n : Int) < t) ∨ (¬ f < 0 ∧ ¬ (n : Int) < t ∧ t < f) := by omega
    clear hr
    rcases hor with h1 | ⟨h1, h2⟩ | ⟨h1, h2, h3⟩
    all_goals (
      go_enter Tryz.func4, Tryz.ntmps4
      go_wp2_with fail
      refine HO.out.mono ?_
      rintro e w1 ⟨a1, c1, rfl, hr1, hk1⟩
      have K1 := hide hk1
      clear hr1 hk1 HO
      go_wp2
      go_ret2
      exact ⟨rfl, K1.out⟩)
theorem pruns_ok (ao : Option Addr) (n cap : Nat) (l : List Int) (f t : Int) (w : World) (h : Row .i64 w ao n cap l) (hn : n * 8 ≤ 140737488351232) (R : List (Nat × Nat)) (hA : PRA l f t R 0) :
    Calls Tryz.prog 4 #[.slice ao n cap, .int .i64 f, .int .i64 t] w fun e w' => ∃ a c, e = .returned (.tuple #[.slice a R.length c, .int .i64 0]) ∧ Pairs w' a R.length c R ∧ KO w w' := by
  have hl := h.len
  have hRl := PRA_len hA
  rw [hl] at hRl
  obtain ⟨hf, ⟨hr1, hr2, hr3⟩, hR⟩ : Od.Fo l ∧ (0 ≤ f ∧ t ≤ (l.length : Int) ∧ f ≤ t) ∧ R = Pk.RU (Pk.qc (Od.ON l) f t) (Od.ON l).length := by
    rcases hA with ⟨h1, h2, h3, _⟩ | ⟨_, _, h0⟩ | ⟨_, _, _, h0⟩
    · exact ⟨h1, h2, h3⟩
    · cases h0
    · cases h0
  rw [hl] at hr2
  have HO := hide (order_any ao n cap l w h (by omega) (Od.ON l) 0 (.inl ⟨hf, rfl, rfl⟩))
  have h1 : ¬ f < 0 := by omega
  have h2 : ¬ (n : Int) < t := by omega
  have h3 : ¬ t < f := by omega
  obtain ⟨L, hL⟩ : ∃ L, Od.ON l = L := ⟨_, rfl⟩
  obtain ⟨k, hk⟩ : ∃ k, L.length = k := ⟨_, rfl⟩
  rw [hL] at HO hR
  rw [hk] at HO hR
  have HR := hide hR
  have HRL : Hid (R.length * 16 ≤ 140737488355328) := hide (by omega)
  obtain ⟨ie, hie, hz0, hz1, hz2⟩ := info_parts pairInfo
  have HI : Hid (Tryz.prog.info? 41 = some ie) := hie
  have HZ0 := hide hz0
  have HZ1 := hide hz1
  have HZ2 := hide hz2
  clear h hA hf hR hL hk hr1 hr2 hr3 hie hz0 hz1 hz2 hRl hn hl
  refine (callsIn_wide (n := 3)).1 ?_
  refine callsIn_of_wp_marks Tryz.func4 rfl trivial ?_
  simp only [Tryz.ntmps4, List.size_toArray, List.length_cons, List.length_nil, Nat.reduceAdd, Nat.reduceSub, Array.replicate_succ, Array.replicate_zero, List.push_toArray, List.append_toArray, List.nil_append, List.cons_append]
  gi_wp2_with fail
  refine ⟨trivial, ?_⟩
  refine (callsIn_wide.2 HO.out).mono ?_
  rintro e w1 ⟨a1, c1, rfl, hrow, hk1⟩
  obtain ⟨V, hV⟩ : ∃ V, w1.alloc (Obj.cells #[Value.slice none 0 0] 23) = V := ⟨_, rfl⟩
  have HVS : Hid (V.heap.size = w1.heap.size + 1) := hide (by rw [← hV]; simp)
  have HBI : Hid (Boxed V w1.heap.size 23 (.slice none 0 0)) := hide (by rw [← hV]; exact Boxed.new w1 _ _)
  have HKV : Hid (Below w1.heap.size w1 V) := hide (by rw [← hV]; exact (Below.refl _ w1).alloc (Nat.le_refl _) _)
  have K1 := hide hk1
  have HROW := hide hrow
  clear hk1 hrow HO
  gi_wp2_with fail
  clear hV
  refine ⟨trivial, ?_⟩
  refine (callsIn_wide.2 (marked_any a1 k c1 f t V)).mono ?_
  rintro e w' ⟨rfl, hw'⟩
  have hVs := HVS.out
  obtain ⟨s, hs⟩ : ∃ s, w1.heap.size = s := ⟨_, rfl⟩
  rw [hs] at hVs
  have h0 : RMid w1 s a1 k c1 f t [] w' := by
    have e1 : (V.alloc (Obj.cells #[Value.slice a1 k c1] 27)).heap.size = s + 2 := by simp; omega
    have e2 : ((V.alloc (Obj.cells #[Value.slice a1 k c1] 27)).alloc (Obj.cells #[Value.int .i64 f] 3)).heap.size = s + 3 := by simp; omega
    have b1 : Boxed (V.alloc (Obj.cells #[Value.slice a1 k c1] 27)) (s + 1) 27 (.slice a1 k c1) := by rw [← hVs]; exact Boxed.new V _ _
    have b2 : Boxed ((V.alloc (Obj.cells #[Value.slice a1 k c1] 27)).alloc (Obj.cells #[Value.int .i64 f] 3)) (s + 2) 3 (.int .i64 f) := by rw [← e1]; exact Boxed.new _ _ _
    have b3 : Boxed (((V.alloc (Obj.cells #[Value.slice a1 k c1] 27)).alloc (Obj.cells #[Value.int .i64 f] 3)).alloc (Obj.cells #[Value.int .i64 t] 3)) (s + 3) 3 (.int .i64 t) := by rw [← e2]; exact Boxed.new _ _ _
    rw [hw']
    have hbI := HBI.out
    have hkV := HKV.out
    rw [hs] at hbI hkV
    refine ⟨⟨_, ((hbI.alloc _).alloc _).alloc _, World.ownsRow_nil _ _ _ _⟩, (b1.alloc _).alloc _, b2.alloc _, b3, ?_⟩
    exact Below.alloc (Below.alloc (Below.alloc hkV (by omega) _) (by omega) _) (by omega) _
  have hws : w'.heap.size = s + 4 := by rw [hw']; simp; omega
  have HROW2 : Hid (∀ pre X, RMid w1 s a1 k c1 f t pre X → MO (s + 1) (s + 2) (s + 3) a1 k c1 L f t X) := hide (fun pre X h => ⟨h.b1.cell, h.b2.cell, h.b3.cell, HROW.out.below (by have := h.old; rw [← hs] at this; exact this)⟩)
  rw [hVs]
  clear hw' HVS HBI HKV hVs
  have HWS := hide hws
  have H00 := hide h0
  have HSS := hide hs
  clear hws h0
  gi_wp2_with fail
  refine wpIn_rangeC (gf := 27) (lb := #[.pointer (some ⟨s + 1, 0, none⟩), .pointer (some ⟨s + 2, 0, none⟩), .pointer (some ⟨s + 3, 0, none⟩)]) rfl (enters_of Tryz.func27 (by kernel_rfl) rfl) (marked1_far (s + 1) (s + 2) (s + 3) a1 k c1 L f t) (fun _ => rfl)
    (fun pre X => RMid w1 s a1 k c1 f t pre X) (fun c pre X => False) HROW2.out
    (fun pre X Y h hc => h.ch hc (by have := HWS.out; omega)) (fun c pre X Y h hc => h.elim) H00.out
    ?fr
    (fun x X => X.alloc (.cells #[.int .i64 (x.1 : Int), .int .i64 (x.2 : Int)] 41)) (fun x X => (Below.refl _ _).alloc (Nat.le_refl _) _) ?assign ?body ?done ?stop
  case assign =>
    intro m l x W K hK
    unfold encRun
    gi_wp2
    exact hK
  case body =>
    rw [← HR.out]
    rintro m y pre x X0 X hM hpre hXs hnew hsz
    have hblk := pair_new16 hnew
    have hXX : X0.heap.size < X.heap.size := by rw [hsz]; simp
    have c0 := cell_of_two16 hblk 0
    have c1 := cell_of_two16 hblk 1
    obtain ⟨p, q⟩ := x
    have hkl : (pre.length + 1) * 16 ≤ 140737488355328 := by
      have h1 := hpre.length_le
      rw [List.length_append] at h1
      have := HRL.out
      simp at h1; omega
    obtain ⟨v, hbx, hown⟩ := hM.row
    have cb := hbx.cell
    have fb := hbx.frozen
    have hbo := build_pair1
    have HM := hide hM
    have HBX := hide hbx
    have HOWN := hide hown
    have HKL := hide hkl
    have HXLT := hide (show s + 4 ≤ X0.heap.size from by have := HWS.out; omega)
    have HXX := hide hXX
    have HLT := hide (show s ≤ X.heap.size from by have := HWS.out; omega)
    generalize hQ : rPostC _ _ _ _ X = Q
    have HQ := hide hQ
    clear hQ hM hpre hXs hnew hsz hkl hblk hbx hown hXX
    gi_wp2_with (gi_at_builtin; refine wpListIn_append_own _ rfl _ _ 23 rfl s 41 ie _ 2 16 Tryz.underlying23 HI.out HZ0.out HZ1.out HZ2.out rfl (by decide) v pre.length (flat2 pre) rfl (HOWN.out.alloc _) ⟨X.heap.size, 0, none⟩ 1 1 [.int .i64 (p : Int), .int .i64 (q : Int)] rfl rfl (two_new X _ _ _) (by simp [Value.oneCell']) (by unfold maxLen; have := HKL.out; omega) (by have := HKL.out; omega) (by simp; have := HLT.out; omega) ?_; intro v' w3 hown3 hg3 hn3; obtain ⟨g', cap', hv'⟩ := ownsRow_succ hown3; have ha := HBX.out.appended (by decide) HOWN.out HLT.out (Nat.le_refl _) hown3 hg3; have c3 := ha.1.cell; have f3 := ha.1.frozen; subst hv')
    rw [← HQ.out]
    have hm := HM.out
    refine ⟨Far.of_others ha.2.2.2.1, ⟨_, ha.2.1, ?_⟩, ?_, ?_, ?_, hm.old.trans ha.2.2.2.2⟩
    · rw [List.length_append, flat2_snoc]; exact ha.2.2.1
    · exact ((hm.b1.alloc _).kept hg3 (hm.b1.not_row (by decide) HOWN.out)).other (by omega) _
    · exact ((hm.b2.alloc _).kept hg3 (hm.b2.not_row (by decide) HOWN.out)).other (by omega) _
    · exact ((hm.b3.alloc _).kept hg3 (hm.b3.not_row (by decide) HOWN.out)).other (by omega) _
  case done =>
    rw [← HR.out]
    rintro D W hD hWs hM hK
    obtain ⟨v, hbx, hown⟩ := hM.row
    obtain ⟨a2, c2, rfl, hp⟩ := pairs_of_owns hown
    have cb := hbx.cell
    have HM := hide hM
    have HD := hide hD
    have HOWN := hide hown
    clear hM hD hWs hown hbx hp
    gi_wp2_with fail
    refine ⟨by simp, .inl ⟨_, _, rfl, run_takeDeferred hK, ?_⟩⟩
    have hDD : s + 4 ≤ D := by have := HD.out; have := HWS.out; omega
    refine ⟨_, results_tmp2 rfl _ _ _, a2, c2, rfl, ?_, ?_⟩
    · obtain ⟨a3, c3, e3, hp⟩ := pairs_of_owns (ownsRow_putObj HOWN.out (.deferred none) hK rfl)
      simp only [Value.slice.injEq] at e3
      obtain ⟨rfl, _, rfl⟩ := e3
      exact hp
    · have h5 := HM.out.old
      have h6 := HSS.out
      rw [← h6] at h5
      exact KO.on K1.out (h5.trans (below_put (by omega) _))
  case stop =>
    rintro D c pre W hD hWs hpre hM hK
    exact hM.elim
theorem pruns_any (ao : Option Addr) (n cap : Nat) (l : List Int) (f t : Int) (w : World) (h : Row .i64 w ao n cap l) (hn : n * 8 ≤ 140737488351232) (R : List (Nat × Nat)) (E : Int) (hA : PRA l f t R E) :
    Calls Tryz.prog 4 #[.slice ao n cap, .int .i64 f, .int .i64 t] w fun e w' => ∃ a c, e = .returned (.tuple #[.slice a R.length c, .int .i64 E]) ∧ Pairs w' a R.length c R ∧ KO w w' := by
  by_cases hE : E = 0
  · subst hE
    exact pruns_ok ao n cap l f t w h hn R hA
  · have hR : R = [] := by
      rcases hA with ⟨_, _, _, h0⟩ | ⟨_, h0, _⟩ | ⟨_, _, h0, _⟩
      · exact absurd h0 hE
      · exact h0
      · exact h0
    subst hR
    refine (pruns_bad ao n cap l f t w h hn E hA hE).mono ?_
    rintro e w' ⟨rfl, hk⟩
    exact ⟨none, 0, rfl, pairs_nil _, hk⟩
end Go.Proofs.YtmdmehopefgndaaGreatDoor
