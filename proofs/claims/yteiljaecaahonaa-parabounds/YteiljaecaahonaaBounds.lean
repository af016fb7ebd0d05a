/- Bounds: where paragraphs begin and end. -/
import Derived.Test.YteiljaecaahonaaPars
import Derived.Test.YteiljaecaahonaaPairs
import Derived.Test.YteiljaecaahonaaFind
namespace Go.Proofs.Yteiljaecaahonaa
open Go.RowKit Go.Shelf
set_option linter.unusedVariables false
set_option maxHeartbeats 1000000
set_option maxRecDepth 100000
attribute [local go_sem] Oper.semAt_some
/-- What Bounds keeps while it ranges. -/
structure BMid (w : World) (ao : Option Addr) (n cap : Nat) (pre : List (Nat × Nat)) (W : World) : Prop where
  row : ∃ v, Boxed W w.heap.size 66 v ∧ W.ownsRow w.heap.size 93 2 v pre.length (flat2 pre)
  text : Boxed W (w.heap.size + 1) 22 (.slice ao n cap)
  old : Below w.heap.size w W
theorem owns_ch {B : Nat} {X Y : World} {base e size n : Nat} {v : Value} {xs : List Value} (h : X.ownsRow base e size v n xs) (hc : Ch true B X Y) : Y.ownsRow base e size v n xs := by
  refine ⟨h.1, ?_⟩
  rcases h.2 with hn | ⟨g, cap, cur, rfl, hbs, hg, rest⟩
  · exact .inl hn
  · exact .inr ⟨g, cap, cur, rfl, hbs, hc.cells rfl _ _ hg rfl, rest⟩
theorem BMid.ch {w : World} {ao : Option Addr} {n cap : Nat} {pre : List (Nat × Nat)} {X Y : World} {B : Nat} (h : BMid w ao n cap pre X) (hc : Ch true B X Y) (hB : w.heap.size ≤ B) : BMid w ao n cap pre Y := by
  obtain ⟨v, hb, ho⟩ := h.row
  exact ⟨⟨v, hc.cells rfl _ _ hb rfl, owns_ch ho hc⟩, hc.cells rfl _ _ h.text rfl, h.old.trans (hc.below.mono hB)⟩
theorem bounds_any (ao : Option Addr) (n cap : Nat) (l : List Int) (w : World) (h : Row .i32 w ao n cap l) (hf : ∀ x ∈ l, (Lit.int .i32 x).wf = true) (hn : n ≤ 1000000) :
    Calls Try.prog 30 #[.slice ao n cap] w fun e w' => ∃ a1 c1, e = .returned (.slice a1 (seps l + 1) c1) ∧ Pairs w' a1 (seps l + 1) c1 (pars l) ∧ Below w.heap.size w w' := by
  have hlen := h.len
  obtain ⟨V, hV⟩ : ∃ V, w.alloc (Obj.cells #[Value.slice none 0 0] 66) = V := ⟨_, rfl⟩
  have hkV : KO w V := by rw [← hV]; exact KO.alloc (KO.refl _) _
  have hVs : V.heap.size = w.heap.size + 1 := by rw [← hV]; simp
  have bI : Boxed V w.heap.size 66 (.slice none 0 0) := by rw [← hV]; exact Boxed.new w _ _
  have hq := pairInfo
  obtain ⟨ie, hie, hz0, hz1, hz2⟩ := info_parts pairInfo
  have HI : Hid (Try.prog.info? 93 = some ie) := hie
  have HZ0 := hide hz0
  have HZ1 := hide hz1
  have HZ2 := hide hz2
  have HV := hide hV
  have HKV := hide hkV
  have HVS := hide hVs
  have HBI := hide bI
  have HROW := hide h
  have HF := hide hf
  have HLEN := hide hlen
  have HN := hide hn
  clear h hf hlen hn hkV hVs bI hie hz0 hz1 hz2 hq
  refine (callsIn_wide (n := 3)).1 ?_
  refine callsIn_of_wp_marks Try.func30 rfl trivial ?_
  simp only [Try.ntmps30, List.size_toArray, List.length_cons, List.length_nil, Nat.reduceAdd, Nat.reduceSub, Array.replicate_succ, Array.replicate_zero, List.push_toArray, List.append_toArray, List.nil_append, List.cons_append]
  gi_wp2_with fail
  clear hV
  refine ⟨trivial, ?_⟩
  refine (callsIn_wide.2 (pars_any ao n cap V)).mono ?_
  rintro e w' ⟨rfl, rfl⟩
  gi_wp2_with fail
  obtain ⟨W0, hW0⟩ : ∃ W0, V.alloc (Obj.cells #[Value.slice ao n cap] 22) = W0 := ⟨_, rfl⟩
  rw [hW0]
  have hVs := HVS.out
  have hW0s : W0.heap.size = w.heap.size + 2 := by rw [← hW0]; simp; omega
  have hbW : Below V.heap.size V W0 := by rw [← hW0]; exact (Below.refl _ V).alloc (Nat.le_refl _) _
  have hold : Below w.heap.size w W0 := KO.on HKV.out hbW
  have h0 : BMid w ao n cap [] W0 := by
    refine ⟨⟨_, (hbW.block _ (by omega)).trans HBI.out, World.ownsRow_nil W0 _ _ _⟩, ?_, hold⟩
    rw [← hW0, ← hVs]; exact Boxed.new V _ _
  rw [hVs]
  clear hW0 hbW hold
  refine wpIn_rangeC (gf := 60) (lb := #[.pointer (some ⟨w.heap.size + 1, 0, none⟩)]) rfl (enters_of Try.func60 (by kernel_rfl) rfl) (pars1_far (w.heap.size + 1) ao n cap l HF.out) (fun _ => rfl)
    (fun pre X => BMid w ao n cap pre X) (fun c pre X => False) (fun pre X h => ⟨h.text.cell, HROW.out.below h.old⟩)
    (fun pre X Y h hc => h.ch hc (by omega)) (fun c pre X Y h hc => h.elim) h0
    (fun x X => { tmps := #[.slice ao n cap, undef, .slice none 0 0, .pointer (some ⟨w.heap.size, 0, none⟩), .pointer (some ⟨X.heap.size, 0, none⟩), .slice ao n cap, .func (.func 60) #[] #[.pointer (some ⟨w.heap.size + 1, 0, none⟩)], .agg #[.int .i64 (x.1 : Int), .int .i64 (x.2 : Int)], undef, undef, undef, undef, undef], defers := [] })
    (fun x X => X.alloc (.cells #[.int .i64 (x.1 : Int), .int .i64 (x.2 : Int)] 93)) (fun x X => (Below.refl _ _).alloc (Nat.le_refl _) _) ?assign ?body ?done ?stop
  case assign =>
    intro m l x W K hK
    unfold encPar
    gi_wp2
    exact hK
  case body =>
    rintro m y pre x X0 X hM hpre hXs hnew hsz
    have hblk := pair_new hnew
    have hXX : X0.heap.size < X.heap.size := by rw [hsz]; simp
    have c0 := cell_of_two hblk 0
    have c1 := cell_of_two hblk 1
    obtain ⟨p, q⟩ := x
    have hkl : pre.length + 1 ≤ 1000001 := by
      have h1 := hpre.length_le
      rw [pars_len, List.length_append] at h1
      have h2 := seps_le l
      have := HLEN.out
      have := HN.out
      simp at h1; omega
    obtain ⟨v, hbx, hown⟩ := hM.row
    have cb := hbx.cell
    have fb := hbx.frozen
    have hbo := build_pair1
    have HM := hide hM
    have HBX := hide hbx
    have HOWN := hide hown
    have HKL := hide hkl
    have HW0S := hide hW0s
    have HXLT := hide (show w.heap.size + 2 ≤ X0.heap.size from by omega)
    have HXX := hide hXX
    have HLT := hide (show w.heap.size ≤ X.heap.size from by omega)
    generalize hQ : rPostC _ _ _ _ X = Q
    have HQ := hide hQ
    clear hQ hM hpre hXs hnew hsz hkl hblk hbx hown h0 hW0s hVs hXX
    gi_wp2_with (gi_at_builtin; refine wpListIn_append_own _ rfl _ _ 66 rfl w.heap.size 93 ie _ 2 16 Try.underlying66 HI.out HZ0.out HZ1.out HZ2.out rfl (by decide) v pre.length (flat2 pre) rfl (HOWN.out.alloc _) ⟨X.heap.size, 0, none⟩ 1 1 [.int .i64 (p : Int), .int .i64 (q : Int)] rfl rfl (two_new X _ _ _) (by simp [Value.oneCell']) (by unfold maxLen; have := HKL.out; omega) (by have := HKL.out; omega) (by simp; have := HLT.out; omega) ?_; intro v' w3 hown3 hg3 hn3; obtain ⟨g', cap', hv'⟩ := ownsRow_succ hown3; have ha := HBX.out.appended (by decide) HOWN.out HLT.out (Nat.le_refl _) hown3 hg3; have c3 := ha.1.cell; have f3 := ha.1.frozen; subst hv')
    rw [← HQ.out]
    have hm := HM.out
    refine ⟨Far.of_others ha.2.2.2.1, ⟨_, ha.2.1, ?_⟩, ?_, hm.old.trans ha.2.2.2.2⟩
    · rw [List.length_append, flat2_snoc]; exact ha.2.2.1
    · exact ((hm.text.alloc _).kept hg3 (hm.text.not_row (by decide) HOWN.out)).other (by omega) _
  case done =>
    rintro D W hD hWs hM hK
    obtain ⟨v, hbx, hown⟩ := hM.row
    rw [pars_len] at hown
    obtain ⟨a1, c1, rfl, hp⟩ := pairs_of_owns hown
    have cb := hbx.cell
    have HM := hide hM
    have HD := hide hD
    have HS0 := hide hW0s
    have HOWN := hide hown
    clear hM hD hWs h0 hW0s hVs hown hbx hp
    gi_wp2_with fail
    refine ⟨by simp, .inl ⟨_, _, rfl, run_takeDeferred hK, ?_⟩⟩
    have hDD : w.heap.size + 2 ≤ D := by have := HD.out; have := HS0.out; omega
    refine ⟨_, results_tmp rfl _ _ _, a1, c1, rfl, ?_, HM.out.old.trans (below_put (by omega) _)⟩
    obtain ⟨a2, c2, e2, hp⟩ := pairs_of_owns (ownsRow_putObj HOWN.out (.deferred none) hK rfl)
    simp only [Value.slice.injEq] at e2
    obtain ⟨rfl, _, rfl⟩ := e2
    exact hp
  case stop =>
    rintro D c pre W hD hWs hpre hM hK
    exact hM.elim
end Go.Proofs.Yteiljaecaahonaa
