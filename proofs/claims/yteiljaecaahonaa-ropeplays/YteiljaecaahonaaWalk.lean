/- The walk through a tree by a function that is yielded to; from; At. -/
import Derived.Test.YteiljaecaahonaaRp
import Derived.Test.YteiljaecaahonaaRng
import Derived.Shelf.Abstract
import Derived.Shelf.RegionOpen
import Derived.WalkKit
import Derived.OwnWalkIn
import Derived.TacticsInMore
import Derived.LoopNIn
import Derived.LoopIn
namespace Go.Proofs.Yteiljaecaahonaa
open Go.RowKit Go.Shelf
set_option linter.unusedVariables false
set_option maxHeartbeats 1000000
set_option maxRecDepth 100000
attribute [local go_sem] Oper.semAt_some
theorem drop_before {a b : List Int} {x : Int} {k : Nat} (h : k ≤ a.length) : (a ++ x :: b).drop k = a.drop k ++ x :: b := by
  rw [List.drop_append_of_le_length h]
theorem drop_behind {a b : List Int} {x : Int} {k : Nat} (h : a.length < k) : (a ++ x :: b).drop k = b.drop (k - a.length - 1) := by
  obtain ⟨j, rfl⟩ : ∃ j, k = a.length + 1 + j := ⟨k - a.length - 1, by omega⟩
  rw [show a.length + 1 + j - a.length - 1 = j from by omega]
  exact drop_right
/-- All but the first 'skip' numbers of a tree are handed on, till a round says 'no more'. -/
theorem walk_in (l B : Nat) (xs : List Int) (J Jx : List Int → World → Prop)
    (hY : ∀ m pre x X, J pre X → pre ++ [x] <+: xs → B ≤ X.heap.size → YieldAt Fence.wide m Try.prog l #[.int .i32 x] X fun e Y => Beyond B X Y ∧ ((e = .returned (.bool true) ∧ J (pre ++ [x]) Y) ∨ (e = .returned (.bool false) ∧ Jx (pre ++ [x]) Y))) (T : Tr) :
    (∀ pre X, J pre X → Lies X T) → T.size ≤ 4611686018427387904 → ∀ (n skip : Nat) (pre : List Int) (W : World), J pre W → pre ++ T.list.drop skip <+: xs → B ≤ W.heap.size →
      CallsIn Fence.wide n Try.prog 57 #[.pointer T.at, .int .i64 (skip : Int), .func (.yield l) #[] #[]] W fun e Y =>
        B ≤ Y.heap.size ∧ ((e = .returned (.bool true) ∧ J (pre ++ T.list.drop skip) Y) ∨ (e = .returned (.bool false) ∧ ∃ q, pre ++ q <+: xs ∧ Jx (pre ++ q) Y)) := by
  induction T with
  | nil =>
    intro hJT hs n skip pre W hJ hpre hB
    have HL := hide (len_any .nil W trivial)
    have e1 : (0 : Int) ≤ (skip : Int) := by omega
    rw [Tr.at_nil] at HL ⊢
    refine callsIn_of_wp Try.func57 rfl trivial ?_
    simp only [Try.ntmps57, List.size_toArray, List.length_cons, List.length_nil, Nat.reduceAdd, Nat.reduceSub, Array.replicate_succ, Array.replicate_zero, List.push_toArray, List.append_toArray, List.nil_append, List.cons_append]
    gi_wp2_with (refine ⟨trivial, fun h => (by cases h), ?_⟩; gi_at_call 48; refine (callsIn_wide.2 HL.out).mono ?_; rintro e w' ⟨rfl, rfl⟩)
    go_ret
    exact ⟨hB, .inl ⟨rfl, by simpa using hJ⟩⟩
  | node b tl x tr ihl ihr =>
    intro hJT hs n skip pre W hJ hpre hB
    have hT := hJT _ _ hJ
    have HLN := hide (len_any (.node b tl x tr) W hT)
    obtain ⟨z, hz⟩ : ∃ z, (Tr.node b tl x tr).size = z := ⟨_, rfl⟩
    rw [hz] at HLN hs
    rw [Tr.at_node] at HLN ⊢
    by_cases hge : z ≤ skip
    · have hge' : (z : Int) ≤ (skip : Int) := by omega
      have hd : (Tr.node b tl x tr).list.drop skip = [] := List.drop_eq_nil_of_le (by rw [show (Tr.node b tl x tr).list.length = z from hz]; exact hge)
      rw [hd] at hpre ⊢
      have HJ := hide hJ
      have HB := hide hB
      clear hT hz hs hd hge hpre hJ hB
      refine callsIn_of_wp Try.func57 rfl trivial ?_
      simp only [Try.ntmps57, List.size_toArray, List.length_cons, List.length_nil, Nat.reduceAdd, Nat.reduceSub, Array.replicate_succ, Array.replicate_zero, List.push_toArray, List.append_toArray, List.nil_append, List.cons_append]
      gi_wp2_with (refine ⟨trivial, fun h => (by cases h), ?_⟩; gi_at_call 48; refine (callsIn_wide.2 HLN.out).mono ?_; rintro e w' ⟨rfl, rfl⟩)
      go_ret
      exact ⟨HB.out, .inl ⟨rfl, by simpa using HJ.out⟩⟩
    · have hge' : ¬ ((z : Int) ≤ (skip : Int)) := by omega
      rw [Tr.size_node] at hz
      have hJl : ∀ pre X, J pre X → Lies X tl := fun pre X h => (hJT pre X h).2.2.2.2.2.2.1
      have hJr : ∀ pre X, J pre X → Lies X tr := fun pre X h => (hJT pre X h).2.2.2.2.2.2.2
      have hJ1 : ∀ pre X, J pre X → X.cell? ⟨b, 1, none⟩ = some (.pointer tr.at) := fun pre X h => (hJT pre X h).2.1
      have hJ2 : ∀ pre X, J pre X → X.cell? ⟨b, 2, none⟩ = some (.int .i32 x) := fun pre X h => (hJT pre X h).2.2.1
      have hl1 := ihl hJl (by omega)
      have hr1 := ihr hJr (by omega)
      have c0 : W.cell? ⟨b, 0, none⟩ = some (.pointer tl.at) := hT.1
      have HLL := hide (len_any tl W (hJl _ _ hJ))
      obtain ⟨pl, hpl⟩ : ∃ pl, tl.at = pl := ⟨_, rfl⟩
      obtain ⟨pr, hpr⟩ : ∃ pr, tr.at = pr := ⟨_, rfl⟩
      rw [hpl] at hl1 c0 HLL
      rw [hpr] at hr1 hJ1
      have hsl : tl.size = tl.list.length := rfl
      by_cases hle : skip ≤ tl.size
      · have hle' : ¬ ((tl.size : Int) < (skip : Int)) := by omega
        have hlist : (Tr.node b tl x tr).list.drop skip = tl.list.drop skip ++ x :: tr.list := drop_before (by omega)
        rw [hlist] at hpre ⊢
        obtain ⟨rest, hrest⟩ := hpre
        have hp1 : pre ++ tl.list.drop skip <+: xs := ⟨x :: tr.list ++ rest, by rw [← hrest]; simp⟩
        have hp2 : (pre ++ tl.list.drop skip) ++ [x] <+: xs := ⟨tr.list ++ rest, by rw [← hrest]; simp⟩
        have hp3 : (pre ++ tl.list.drop skip ++ [x]) ++ tr.list.drop 0 <+: xs := ⟨rest, by rw [← hrest]; simp⟩
        have hY2 : ∀ Y, J (pre ++ tl.list.drop skip) Y → B ≤ Y.heap.size → _ := fun Y hj hb => hY (n - 1) _ x Y hj hp2 hb
        have HW1 := hide (hl1 (n - 1) skip pre W hJ hp1 hB)
        have HR := hide (fun Y (hj : J (pre ++ tl.list.drop skip ++ [x]) Y) (hb : B ≤ Y.heap.size) => hr1 (n - 1) 0 (pre ++ tl.list.drop skip ++ [x]) Y hj hp3 hb)
        have HY2 := hide hY2
        obtain ⟨d, hd⟩ : ∃ d : Int, (skip : Int) - (tl.size : Int) = d := ⟨_, rfl⟩
        obtain ⟨d1, hd1⟩ : ∃ d1 : Int, d - 1 = d1 := ⟨_, rfl⟩
        have hdneg : d1 < 0 := by omega
        have b1 : -9223372036854775808 ≤ d := by omega
        have b2 : d ≤ 9223372036854775807 := by omega
        have b3 : -9223372036854775808 ≤ d1 := by omega
        have b4 : d1 ≤ 9223372036854775807 := by omega
        have e4 : wrap64 ((skip : Int) - (tl.size : Int)) = d := by rw [hd]; exact w64_small b1 b2
        have e5 : wrap64 (d - 1) = d1 := by rw [hd1]; exact w64_small b3 b4
        clear hd hd1 b1 b2 b3 b4
        have hp1' := hide hp1
        have hp2' := hide hp2
        have hp3' := hide hp3
        clear hY2 hY hJT hT ihl ihr hl1 hr1 hz hs hge hpl hpr hsl hle hlist hrest hp1 hp2 hp3 hJ hB
        refine callsIn_of_wp Try.func57 rfl trivial ?_
        simp only [Try.ntmps57, List.size_toArray, List.length_cons, List.length_nil, Nat.reduceAdd, Nat.reduceSub, Array.replicate_succ, Array.replicate_zero, List.push_toArray, List.append_toArray, List.nil_append, List.cons_append]
        gi_wp2_with fail
        refine ⟨trivial, fun h => (by cases h), ?_⟩
        refine (callsIn_wide.2 HLN.out).mono ?_
        rintro e w' ⟨rfl, rfl⟩
        gi_wp2_with fail
        refine ⟨trivial, fun h => (by cases h), ?_⟩
        refine (callsIn_wide.2 HLL.out).mono ?_
        rintro e w' ⟨rfl, rfl⟩
        gi_wp2_with fail
        refine ⟨trivial, fun h => (by cases h), ?_⟩
        refine HW1.out.mono ?_
        rintro e W1 ⟨hB1, (⟨rfl, hj1⟩ | ⟨rfl, q, hq, hx1⟩)⟩
        · have c2 := hJ2 _ _ hj1
          obtain ⟨fn, tmps, assign, body, hy, hR⟩ := HY2.out W1 hj1 hB1
          gi_wp2_with fail
          refine ⟨fun h => (by cases h), ?_⟩
          refine hR.mono ?_
          rintro e W2 ⟨hbey, (⟨rfl, hj2⟩ | ⟨rfl, hx2⟩)⟩
          · have c1 := hJ1 _ _ hj2
            have hB2 : B ≤ W2.heap.size := Nat.le_trans hB1 hbey.size
            have HR2 := hide (HR.out W2 hj2 hB2)
            gi_wp2_with fail
            refine ⟨trivial, fun h => (by cases h), ?_⟩
            refine HR2.out.mono ?_
            rintro e W3 ⟨hB3, (⟨rfl, hj3⟩ | ⟨rfl, q, hq, hx3⟩)⟩
            · gi_wp2_with fail
              go_ret
              exact ⟨hB3, .inl ⟨rfl, by simpa [List.append_assoc] using hj3⟩⟩
            · gi_wp2_with fail
              go_ret
              exact ⟨hB3, .inr ⟨rfl, tl.list.drop skip ++ [x] ++ q, by simpa [List.append_assoc] using hq, by simpa [List.append_assoc] using hx3⟩⟩
          · gi_wp2_with fail
            refine ⟨trivial, ?_⟩
            gi_wp2_with fail
            go_ret
            exact ⟨Nat.le_trans hB1 hbey.size, .inr ⟨rfl, tl.list.drop skip ++ [x], by rw [← List.append_assoc]; exact hp2'.out, by rw [← List.append_assoc]; exact hx2⟩⟩
        · gi_wp2_with fail
          all_goals first
            | exact absurd (by assumption : some undef = some (Value.bool _)) (by simp [undef])
            | (refine ⟨fun _ h => (by cases h), ?_⟩
               gi_wp2_with fail
               refine ⟨trivial, ?_⟩
               gi_wp2_with fail
               go_ret
               exact ⟨hB1, .inr ⟨rfl, q, hq, hx1⟩⟩)
            | trace_state
      · have hle' : (tl.size : Int) < (skip : Int) := by omega
        have hlist : (Tr.node b tl x tr).list.drop skip = tr.list.drop (skip - tl.list.length - 1) := drop_behind (by omega)
        obtain ⟨sk, hsk⟩ : ∃ sk, skip - tl.list.length - 1 = sk := ⟨_, rfl⟩
        rw [hlist, hsk] at hpre
        rw [hlist, hsk]
        have hd0 : tl.list.drop skip = [] := List.drop_eq_nil_of_le (by omega)
        have hW := hl1 (n - 1) skip pre W hJ (by rw [hd0, List.append_nil]; exact (List.prefix_append pre _).trans hpre) hB
        rw [hd0, List.append_nil] at hW
        have HW1 := hide hW
        have HR := hide (fun Y (hj : J pre Y) (hb : B ≤ Y.heap.size) => hr1 (n - 1) sk pre Y hj hpre hb)
        have hq1 : (skip : Int) - (tl.size : Int) = ((sk + 1 : Nat) : Int) := by omega
        have hq2 : ((sk + 1 : Nat) : Int) - 1 = (sk : Int) := by omega
        have b1 : sk + 1 ≤ 9223372036854775807 := by omega
        have b2 : sk ≤ 9223372036854775807 := by omega
        have hnn : ¬ ((sk : Int) < 0) := by omega
        have e4 : wrap64 ((skip : Int) - (tl.size : Int)) = ((sk + 1 : Nat) : Int) := by rw [hq1]; exact w64_small (by omega) (by omega)
        have e5 : wrap64 (((sk + 1 : Nat) : Int) - 1) = (sk : Int) := by rw [hq2]; exact w64_small (by omega) (by omega)
        obtain ⟨sk1, hsk1⟩ : ∃ sk1, sk + 1 = sk1 := ⟨_, rfl⟩
        rw [hsk1] at e4 e5
        clear hW hY hJT hT ihl ihr hl1 hr1 hz hs hge hpl hpr hsl hle hlist hJ hB hq1 hq2 b1 b2 hsk hsk1 hd0
        refine callsIn_of_wp Try.func57 rfl trivial ?_
        simp only [Try.ntmps57, List.size_toArray, List.length_cons, List.length_nil, Nat.reduceAdd, Nat.reduceSub, Array.replicate_succ, Array.replicate_zero, List.push_toArray, List.append_toArray, List.nil_append, List.cons_append]
        gi_wp2_with fail
        refine ⟨trivial, fun h => (by cases h), ?_⟩
        refine (callsIn_wide.2 HLN.out).mono ?_
        rintro e w' ⟨rfl, rfl⟩
        gi_wp2_with fail
        refine ⟨trivial, fun h => (by cases h), ?_⟩
        refine (callsIn_wide.2 HLL.out).mono ?_
        rintro e w' ⟨rfl, rfl⟩
        gi_wp2_with fail
        refine ⟨trivial, fun h => (by cases h), ?_⟩
        refine HW1.out.mono ?_
        rintro e W1 ⟨hB1, (⟨rfl, hj1⟩ | ⟨rfl, q, hq, hx1⟩)⟩
        · have c1 := hJ1 _ _ hj1
          have HR2 := hide (HR.out W1 hj1 hB1)
          gi_wp2_with fail
          refine ⟨fun _ h => (by cases h), ?_⟩
          gi_wp2_with fail
          refine ⟨trivial, fun h => (by cases h), ?_⟩
          refine HR2.out.mono ?_
          rintro e W3 ⟨hB3, (⟨rfl, hj3⟩ | ⟨rfl, q, hq, hx3⟩)⟩
          · gi_wp2_with fail
            go_ret
            exact ⟨hB3, .inl ⟨rfl, hj3⟩⟩
          · gi_wp2_with fail
            go_ret
            exact ⟨hB3, .inr ⟨rfl, q, hq, hx3⟩⟩
        · gi_wp2_with fail
          all_goals first
            | exact absurd (by assumption : some undef = some (Value.bool _)) (by simp [undef])
            | (refine ⟨fun _ h => (by cases h), ?_⟩
               gi_wp2_with fail
               refine ⟨trivial, ?_⟩
               gi_wp2_with fail
               go_ret
               exact ⟨hB1, .inr ⟨rfl, q, hq, hx1⟩⟩)
/-- What from's function reads. -/
structure FromOk (T : Tr) (Bn Bp skip : Nat) (X : World) : Prop where
  node : X.cell? ⟨Bn, 0, none⟩ = some (.pointer T.at)
  place : X.cell? ⟨Bp, 0, none⟩ = some (.int .i64 (skip : Int))
  lies : Lies X T
theorem from1_seq (T : Tr) (Bn Bp skip : Nat) (hs : T.size ≤ 4611686018427387904) (c : Bool) :
    Seq c Try.prog 56 #[.pointer (some ⟨Bn, 0, none⟩), .pointer (some ⟨Bp, 0, none⟩)] (fun x : Int => #[Value.int .i32 x]) (T.list.drop skip) (FromOk T Bn Bp skip) := by
  intro n l J Jx W hOk hJ hJx hY h0
  have hk := hOk _ _ h0
  have c0 := hk.node
  have c1 := hk.place
  have HW := hide (walk_in l W.heap.size (T.list.drop skip) J Jx hY T (fun pre X h => (hOk pre X h).lies) hs (n - 1) skip [] W h0 (List.prefix_refl _) (Nat.le_refl _))
  obtain ⟨p, hp⟩ : ∃ p, T.at = p := ⟨_, rfl⟩
  rw [hp] at c0 HW
  clear hk hp
  refine callsIn_of_wp Try.func56 rfl trivial ?_
  simp only [Try.ntmps56, List.size_toArray, List.length_cons, List.length_nil, Nat.reduceAdd, Nat.reduceSub, Array.replicate_succ, Array.replicate_zero, List.push_toArray, List.append_toArray, List.nil_append, List.cons_append]
  gi_wp2_with fail
  refine ⟨trivial, fun h => (by cases h), ?_⟩
  refine HW.out.mono ?_
  rintro e W1 ⟨hB1, (⟨rfl, hj1⟩ | ⟨rfl, q, hq, hx1⟩)⟩
  · gi_wp2
    go_end0
    exact ⟨⟨_, rfl⟩, hB1, .inl (by simpa using hj1)⟩
  · gi_wp2
    go_end0
    exact ⟨⟨_, rfl⟩, hB1, .inr ⟨q, by simpa using hq, by simpa using hx1⟩⟩
theorem from_any (p : Option Addr) (i : Int) (w : World) :
    Calls Try.prog 42 #[.pointer p, .int .i64 i] w fun e w' => e = .returned (.func (.func 56) #[] #[.pointer (some ⟨w.heap.size, 0, none⟩), .pointer (some ⟨w.heap.size + 1, 0, none⟩)]) ∧ w' = (w.alloc (.cells #[.pointer p] 35)).alloc (.cells #[.int .i64 i] 3) := by
  go_enter Try.func42, Try.ntmps42
  go_wp2
  go_ret
  exact ⟨rfl, rfl⟩
end Go.Proofs.Yteiljaecaahonaa
