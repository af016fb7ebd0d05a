/- Find: which paragraph a place lies in. -/
import Derived.Test.YteiljaecaahonaaPars
import Derived.Test.YteiljaecaahonaaRngW
namespace Go.Proofs.Yteiljaecaahonaa
open Go.RowKit Go.Shelf
set_option linter.unusedVariables false
set_option maxHeartbeats 1000000
set_option maxRecDepth 100000
attribute [local go_sem] Oper.semAt_some
theorem find_bad (ao : Option Addr) (n cap : Nat) (l : List Int) (i : Int) (w : World) (h : Row .i32 w ao n cap l) (hi : i < 0 ∨ (n : Int) < i) :
    Calls Try.prog 27 #[.slice ao n cap, .int .i64 i] w fun e w' => e = .returned (.tuple #[.int .i64 0, .int .i64 4]) ∧ Below w.heap.size w w' := by
  clear h
  rcases hi with hi | hi
  · go_enter Try.func27, Try.ntmps27
    go_wp2
    go_ret2
    exact ⟨rfl, KO.alloc (KO.refl _) _⟩
  · have h0 : ¬ i < 0 := by omega
    go_enter Try.func27, Try.ntmps27
    go_wp2
    go_ret2
    exact ⟨rfl, KO.alloc (KO.refl _) _⟩
/-- What Find keeps while it ranges. -/
structure FMid (w : World) (ao : Option Addr) (n cap : Nat) (i : Nat) (x : Int) (W : World) : Prop where
  place : Boxed W w.heap.size 3 (.int .i64 (i : Int))
  num : Boxed W (w.heap.size + 1) 3 (.int .i64 x)
  text : Boxed W (w.heap.size + 2) 22 (.slice ao n cap)
  old : Below w.heap.size w W
theorem FMid.kept {w : World} {ao : Option Addr} {n cap i : Nat} {x : Int} {X Y : World} {B : Nat} (h : FMid w ao n cap i x X) (hb : Below B X Y) (hB : w.heap.size + 3 ≤ B) : FMid w ao n cap i x Y :=
  ⟨(hb.block _ (by omega)).trans h.place, (hb.block _ (by omega)).trans h.num, (hb.block _ (by omega)).trans h.text, h.old.trans (hb.mono (by omega))⟩
theorem pair_new {X0 X : World} {a b : Value} {t : TypeId} (h : ∀ k, X0.heap.size ≤ k → X.heap[k]? = (X0.alloc (.cells #[a, b] t)).heap[k]?) : X.heap[X0.heap.size]? = some (.cells #[a, b] t (0, 0)) := by
  rw [h _ (Nat.le_refl _)]; exact World.alloc_heap_new _ _
theorem cell_of_two {X : World} {g : Nat} {a b : Value} {t : TypeId} (h : X.heap[g]? = some (.cells #[a, b] t (0, 0))) (j : Nat) : X.cell? ⟨g, j, none⟩ = (#[a, b] : Array Value)[j]? := by
  simp [World.cell?, h]
theorem find_ok (ao : Option Addr) (n cap : Nat) (l : List Int) (i : Nat) (w : World) (h : Row .i32 w ao n cap l) (hf : ∀ x ∈ l, (Lit.int .i32 x).wf = true) (hi : i ≤ n) :
    Calls Try.prog 27 #[.slice ao n cap, .int .i64 (i : Int)] w fun e w' => e = .returned (.tuple #[.int .i64 (seps (l.take i) : Int), .int .i64 0]) ∧ Below w.heap.size w w' := by
  have hlen := h.len
  have hmax := h.max
  have hle := h.le
  unfold maxLen at hmax
  have e1 : ¬ ((i : Int) < 0) := by omega
  have e2 : ¬ ((n : Int) < (i : Int)) := by omega
  obtain ⟨V, hV⟩ : ∃ V, ((w.alloc (Obj.cells #[Value.int IntKind.i64 (i : Int)] 3)).alloc (Obj.cells #[Value.int IntKind.i64 (-1)] 3)) = V := ⟨_, rfl⟩
  have hkV : KO w V := by rw [← hV]; exact KO.alloc (KO.alloc (KO.refl _) _) _
  have hVs : V.heap.size = w.heap.size + 2 := by rw [← hV]; simp
  have bI : Boxed V w.heap.size 3 (.int .i64 (i : Int)) := by rw [← hV]; exact (Boxed.new w _ _).alloc _
  have bN : Boxed V (w.heap.size + 1) 3 (.int .i64 (-1)) := by
    rw [← hV]; have := Boxed.new (w.alloc (Obj.cells #[Value.int IntKind.i64 (i : Int)] 3)) 3 (.int .i64 (-1)); rw [World.size_alloc] at this; exact this
  have HV := hide hV
  have HKV := hide hkV
  have HVS := hide hVs
  have HBI := hide bI
  have HBN := hide bN
  have HROW := hide h
  have HF := hide hf
  have HLEN := hide hlen
  have HI := hide hi
  clear h hf hlen hi hkV hVs bI bN
  refine (callsIn_wide (n := 3)).1 ?_
  refine callsIn_of_wp_marks Try.func27 rfl trivial ?_
  simp only [Try.ntmps27, List.size_toArray, List.length_cons, List.length_nil, Nat.reduceAdd, Nat.reduceSub, Array.replicate_succ, Array.replicate_zero, List.push_toArray, List.append_toArray, List.nil_append, List.cons_append]
  gi_wp2_with fail
  clear hV
  refine ⟨trivial, ?_⟩
  refine (callsIn_wide.2 (pars_any ao n cap V)).mono ?_
  rintro e w' ⟨rfl, rfl⟩
  gi_wp2_with fail
  obtain ⟨W0, hW0⟩ : ∃ W0, V.alloc (Obj.cells #[Value.slice ao n cap] 22) = W0 := ⟨_, rfl⟩
  rw [hW0]
  have hVs := HVS.out
  have hW0s : W0.heap.size = w.heap.size + 3 := by rw [← hW0]; simp; omega
  have hbW : Below V.heap.size V W0 := by rw [← hW0]; exact (Below.refl _ V).alloc (Nat.le_refl _) _
  have hold : Below w.heap.size w W0 := KO.on HKV.out hbW
  have h0 : FMid w ao n cap i (-1) W0 := by
    refine ⟨(hbW.block _ (by omega)).trans HBI.out, (hbW.block _ (by omega)).trans HBN.out, ?_, hold⟩
    rw [← hW0, ← hVs]; exact Boxed.new V _ _
  rw [hVs]
  have hz := hbW
  clear hW0 hbW hold hz
  refine wpIn_rangeW (ck := true) (gf := 60) (lb := #[.pointer (some ⟨w.heap.size + 2, 0, none⟩)]) rfl (enters_of Try.func60 (by kernel_rfl) rfl) (pars1_seq true (w.heap.size + 2) ao n cap l HF.out) (fun _ => rfl)
    (fun pre X => pre.length ≤ seps (l.take i) + 1 ∧ FMid w ao n cap i ((pre.length : Int) - 1) X) (fun c pre X => c = .exit 0 ∧ FMid w ao n cap i (seps (l.take i) : Int) X) (fun pre X ⟨_, h⟩ => ⟨h.text.cell, HROW.out.below h.old⟩)
    (fun pre X Y ⟨h1, h⟩ hc => ⟨h1, h.kept hc.below (by omega)⟩) (fun c pre X Y ⟨h1, h⟩ hc => ⟨h1, h.kept hc.below (by omega)⟩) ⟨Nat.zero_le _, h0⟩
    (fun x X => { tmps := #[.slice ao n cap, .int .i64 (i : Int), undef, .pointer (some ⟨w.heap.size, 0, none⟩), .int .i64 0, .int .i64 0, .pointer (some ⟨w.heap.size + 1, 0, none⟩), .pointer (some ⟨X.heap.size, 0, none⟩), .int .i64 (i : Int), .bool false, .bool false, .int .i64 (i : Int), .slice ao n cap, .int .i64 (n : Int), .bool false, .bool false, .slice ao n cap, .func (.func 60) #[] #[.pointer (some ⟨w.heap.size + 2, 0, none⟩)], .agg #[.int .i64 (x.1 : Int), .int .i64 (x.2 : Int)], undef, undef, undef, undef, undef, undef, undef], defers := [] })
    (fun x X => X.alloc (.cells #[.int .i64 (x.1 : Int), .int .i64 (x.2 : Int)] 93)) (fun x X => (Below.refl _ _).alloc (Nat.le_refl _) _) ?assign ?body ?done ?stop
  case assign =>
    intro m l x W K hK
    unfold encPar
    gi_wp2
    exact hK
  case body =>
    rintro m y pre x X0 X ⟨hlp, hM⟩ hpre hXs hnew hsz
    obtain ⟨k, hk⟩ : ∃ k, pre.length = k := ⟨_, rfl⟩
    rw [hk] at hM hlp
    have hx := (prefix_at hpre).1
    rw [hk] at hx
    have hkl : k ≤ seps l := by have := (List.getElem?_eq_some_iff.1 hx).1; rw [pars_len] at this; omega
    rw [pars_at l k hkl] at hx
    simp only [Option.some.injEq] at hx
    subst hx
    have hblk := pair_new hnew
    have hXlt : w.heap.size + 3 ≤ X0.heap.size := by omega
    have hXX : X0.heap.size < X.heap.size := by rw [hsz]; simp
    have c0 := cell_of_two hblk 0
    have c1 := cell_of_two hblk 1
    unfold parAt at c0
    obtain ⟨f, hf⟩ : ∃ f, bh l k = f := ⟨_, rfl⟩
    rw [hf] at c0
    have cp := hM.place.cell
    have cn := hM.num.cell
    have fn := hM.num.frozen
    have hkmax : seps l ≤ n := by rw [← HLEN.out]; exact seps_le l
    have HM := hide hM
    have HK := hide hk
    have HF2 := hide hf
    have HKL := hide hkl
    have HLP := hide hlp
    have HW0S := hide hW0s
    generalize hQ : rPost _ _ _ _ X = Q
    have HQ := hide hQ
    by_cases hfi : f ≤ i
    · have e3 : ¬ ((i : Int) < (f : Int)) := by omega
      have e4 : wrap64 (k : Int) = (k : Int) := w64_small (by omega) (by omega)
      have HFI := hide hfi
      clear hQ hM hpre hXs hnew hsz hlp hk hkl hblk hf hfi hkmax h0 hW0s hVs c1 hXlt hXX
      gi_wp2_with fail
      rw [← HQ.out]
      have hm := HM.out
      have hws := HW0S.out
      have hkk : k ≤ seps (l.take i) := by
        have h1 := seps_take_mono l (show bh l k ≤ i from by rw [HF2.out]; exact HFI.out)
        rw [seps_take_bh l k HKL.out] at h1; exact h1
      have hlen : (pre ++ [parAt l k]).length = k + 1 := by simp [HK.out]
      refine ⟨Beyond.setCell X (by show w.heap.size + 1 < _; omega) _, by rw [hlen]; omega, ?_⟩
      rw [hlen]
      refine ⟨hm.place.other (by omega) _, ?_, hm.text.other (by omega) _, hm.old.setCell (by show w.heap.size ≤ w.heap.size + 1; omega) _⟩
      have := hm.num.set (.int .i64 (((k + 1 : Nat) : Int) - 1))
      rw [show (((k + 1 : Nat) : Int) - 1) = (k : Int) from by omega] at this ⊢
      exact this
    · have e3 : ((i : Int) < (f : Int)) := by omega
      have HFI := hide hfi
      clear hQ hM hpre hXs hnew hsz hlp hk hkl hblk hf hfi hkmax h0 hW0s hVs c1 hXlt hXX
      gi_wp2_with fail
      rw [← HQ.out]
      have hfi := HFI.out
      have hkk : seps (l.take i) + 1 = k := by
        cases k with
        | zero => have := HF2.out; rw [bh_zero] at this; omega
        | succ k =>
          have h1 := seps_take_lt l i k (by rw [HF2.out]; omega)
          have := HLP.out
          omega
      refine ⟨Beyond.refl _ _, rfl, ?_⟩
      rw [show ((seps (l.take i) : Nat) : Int) = (k : Int) - 1 from by omega]
      exact HM.out
  case done =>
    rintro D W hD hWs ⟨hle1, hM⟩ hK
    have hnum : (((pars l).length : Int) - 1) = (seps (l.take i) : Int) := by
      rw [pars_len] at hle1 ⊢
      have := seps_take_le l i
      omega
    rw [hnum] at hM
    have cn := hM.num.cell
    have HM := hide hM
    have HD := hide hD
    have HS0 := hide hW0s
    clear hM hD hWs h0 hW0s hVs hle1 hnum
    gi_wp2_with fail
    refine ⟨by simp, .inl ⟨_, _, rfl, run_takeDeferred hK, ?_⟩⟩
    have hDD : w.heap.size + 3 ≤ D := by have := HD.out; have := HS0.out; omega
    exact ⟨_, results_tmp2 rfl _ _ _, rfl, HM.out.old.trans (below_put (by omega) _)⟩
  case stop =>
    rintro D c pre W hD hWs hpre ⟨rfl, hM⟩ hK
    have cn := hM.num.cell
    have HM := hide hM
    have HD := hide hD
    have HS0 := hide hW0s
    clear hM hD hWs h0 hW0s hVs hpre
    gi_wp2_with fail
    refine ⟨by simp, .inl ⟨_, _, rfl, run_takeDeferred hK, ?_⟩⟩
    have hDD : w.heap.size + 3 ≤ D := by have := HD.out; have := HS0.out; omega
    exact ⟨_, results_tmp2 rfl _ _ _, rfl, HM.out.old.trans (below_put (by omega) _)⟩
end Go.Proofs.Yteiljaecaahonaa
