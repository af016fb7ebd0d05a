/- tells: a rope tells what a list is. -/
import Derived.Test.YteiljaecaahonaaAll
import Derived.Test.YteiljaecaahonaaWk
import Derived.Test.YteiljaecaahonaaFnil
import Derived.Test.YteiljaecaahonaaRefp
import Derived.RegionIn
namespace Go.Proofs.Yteiljaecaahonaa
open Go.RowKit Go.Shelf
set_option linter.unusedVariables false
set_option maxHeartbeats 4000000
set_option maxRecDepth 100000
attribute [local go_sem] Oper.semAt_some
theorem tells_results (W : World) (b1 : Nat) (x : Bool) (h1 : Boxed W b1 4 (.bool x)) (tmps : Array Value) (t1 : tmps.getD 4 undef = .pointer (some ⟨b1, 0, none⟩)) :
    (results Try.f10 tmps).run Try.prog W = .ok (.bool x) W := by
  have c1 := h1.cell
  have t1' : tmps[4]?.getD undef = .pointer (some ⟨b1, 0, none⟩) := by simpa using t1
  simp only [results, Try.results10]
  simp [go_sem, t1', c1]
/-- The variable n lies in the block that was new when the loop's round began. -/
structure TMid (X0 : World) (b m : Nat) (X : World) : Prop where
  old : KO X0 X
  num : Boxed X X0.heap.size 3 (.int .i64 (m : Int))
  rope : Boxed X (X0.heap.size + 1) 24 (.pointer (some ⟨b, 0, none⟩))
theorem TMid.kept {X0 : World} {b m : Nat} {X Y : World} {B : Nat} (h : TMid X0 b m X) (hb : Below B X Y) (hB : X0.heap.size + 2 ≤ B) : TMid X0 b m Y :=
  ⟨Below.trans h.old (hb.mono (by omega)), (hb.block _ (by omega)).trans h.num, (hb.block _ (by omega)).trans h.rope⟩
theorem TMid.set {X0 : World} {b m : Nat} {X : World} (h : TMid X0 b m X) (m' : Nat) : TMid X0 b m' (X.setCell ⟨X0.heap.size, 0, none⟩ (.int .i64 (m' : Int))) :=
  ⟨Below.setCell h.old (by exact Nat.le_refl _) _, h.num.set _, h.rope.other (by omega) _⟩
theorem ats_next2 {l : List Int} {pre : List (Nat × Int)} {x : Nat × Int} (h : pre ++ [x] <+: ats l) : pre.length < l.length ∧ x = (pre.length, l.getD pre.length 0) := by
  have h1 := (prefix_at h).1
  have h2 := (List.getElem?_eq_some_iff.1 h1).1
  rw [ats_len] at h2
  refine ⟨h2, ?_⟩
  have h3 := ats_at l pre.length _ (List.getElem?_eq_getElem h2)
  rw [h1] at h3
  simp only [Option.some.injEq] at h3
  rw [h3]
  simp [List.getD, List.getElem?_eq_getElem h2]
theorem tells_any (b : Nat) (t : Tr) (ao : Option Addr) (n cap : Nat) (l : List Int) (w : World) (hr : IsRope w b t) (hrow : Row .i32 w ao n cap l) (hf : ∀ x ∈ l, (Lit.int .i32 x).wf = true) (hl : t.list = l) (hn : n ≤ 17592186044416) :
    Calls Try.prog 10 #[.pointer (some ⟨b, 0, none⟩), .slice ao n cap] w fun e w' => e = .returned (.bool true) ∧ Below w.heap.size w w' := by
  obtain ⟨V, hV⟩ : ∃ V, (w.alloc (Obj.cells #[Value.slice ao n cap] 22)).alloc (Obj.cells #[Value.bool false] 4) = V := ⟨_, rfl⟩
  have hkV : KO w V := by rw [← hV]; exact KO.alloc (KO.alloc (KO.refl _) _) _
  have hVs : V.heap.size = w.heap.size + 2 := by rw [← hV]; simp
  have bL : Boxed V w.heap.size 22 (.slice ao n cap) := by rw [← hV]; exact (Boxed.new w _ _).alloc _
  have bR : Boxed V (w.heap.size + 1) 4 (.bool false) := by
    rw [← hV]; have := Boxed.new (w.alloc (Obj.cells #[Value.slice ao n cap] 22)) 4 (.bool false); rw [World.size_alloc] at this; exact this
  have cL := bL.cell
  have hsz : t.size = n := by unfold Tr.size; rw [hl]; exact hrow.len
  have hbk : t.brk = seps l := by unfold Tr.brk; rw [hl]
  have HLN := hide (fun w' (hk : KO V w') => Len_rope b t w' ((hr.below hkV).below hk))
  have HBK := hide (fun w' (hk : KO V w') => Breaks_rope b t w' ((hr.below hkV).below hk))
  have HRB := hide (fun w' (hk : KO V w') => rbreaks_any ao n cap l w' ((hrow.below hkV).below hk) hf (by omega))
  rw [hsz] at HLN
  rw [hbk] at HBK
  obtain ⟨S, hS⟩ : ∃ S, seps l = S := ⟨_, rfl⟩
  rw [hS] at HBK HRB
  have hfn := fun bt w' => fn_not_nil 51 #[Value.pointer (some ⟨bt, 0, none⟩)] w'
  have HKV := hide hkV
  have HVS := hide hVs
  have HBL := hide bL
  have HBR := hide bR
  have HR := hide hr
  have HROW := hide hrow
  have HLI := hide hl
  have hmo : Try.prog.follows .mixedOrders = true := by kernel_rfl
  have hK : KO V V := KO.refl _
  have hKd : KO V V.drew := KO.drew hK
  clear hkV hVs bL bR hr hrow hl hsz hbk hS hf
  refine (callsIn_wide (n := 3)).1 ?_
  refine callsIn_of_wp_marks Try.func10 rfl trivial ?_
  simp only [Try.ntmps10, List.size_toArray, List.length_cons, List.length_nil, Nat.reduceAdd, Nat.reduceSub, Array.replicate_succ, Array.replicate_zero, List.push_toArray, List.append_toArray, List.nil_append, List.cons_append]
  gi_wp2_with fail
  clear hV
  refine wpIn_mono (Q := NoPanic _) ?_ NoPanic.imp
  gi_region_with_o (first
    | (refine ⟨trivial, ?_⟩; gi_at_call 20; refine (callsIn_wide.2 (HLN.out _ (by assumption))).mono ?_; rintro e w' ⟨rfl, rfl⟩)
    | (refine ⟨trivial, ?_⟩; gi_at_call 21; refine (callsIn_wide.2 (HBK.out _ (by assumption))).mono ?_; rintro e w' ⟨rfl, rfl⟩)
    | (refine ⟨trivial, ?_⟩; gi_at_call 36; refine (callsIn_wide.2 (HRB.out _ (by assumption))).mono ?_; rintro e w1 ⟨rfl, hb1⟩; have hk1 : KO V w1 := KO.on hKd hb1)
    | (refine ⟨trivial, ?_⟩; gi_at_call 23; refine (callsIn_wide.2 (All_any _ _)).mono ?_; rintro e w' ⟨rfl, rfl⟩))
  all_goals (
    refine NoPanic.normal ?_
    have HK1 := hide hk1
    clear hb1 hk1 hK hKd cL
    try clear c1
    gi_wp2_with fail
    refine ⟨trivial, ?_⟩
    refine (callsIn_wide.2 (All_any (some ⟨b, 0, none⟩) _)).mono ?_
    rintro e w' ⟨rfl, rfl⟩
    gi_wp2_with fail
    obtain ⟨X0, hX0⟩ : ∃ X0, w1.alloc (Obj.cells #[Value.pointer (some ⟨b, 0, none⟩)] 24) = X0 := ⟨_, rfl⟩
    have hX0s : X0.heap.size = w1.heap.size + 1 := by rw [← hX0]; simp
    rw [hX0, ← hX0s]
    obtain ⟨Y, hY⟩ : ∃ Y, (X0.alloc (Obj.cells #[Value.int IntKind.i64 0] 3)).alloc (Obj.cells #[Value.pointer (some ⟨b, 0, none⟩)] 24) = Y := ⟨_, rfl⟩
    rw [hY]
    have kVX : KO V X0 := by rw [← hX0]; exact KO.alloc HK1.out _
    have hVs := HVS.out
    have kX0 : KO w X0 := KO.on HKV.out kVX
    have hVX := Below.size kVX
    have bL0 : Boxed X0 w.heap.size 22 (.slice ao n cap) := (Below.block kVX _ (by omega)).trans HBL.out
    have bR0 : Boxed X0 (w.heap.size + 1) 4 (.bool false) := (Below.block kVX _ (by omega)).trans HBR.out
    have rp0 : IsRope X0 b t := HR.out.below kX0
    have hYs : Y.heap.size = X0.heap.size + 2 := by rw [← hY]; simp
    have h0 : TMid X0 b 0 Y := by
      rw [← hY]
      refine ⟨KO.alloc (KO.alloc (KO.refl _) _) _, (Boxed.new X0 _ _).alloc _, ?_⟩
      have := Boxed.new (X0.alloc (Obj.cells #[Value.int IntKind.i64 0] 3)) 24 (.pointer (some ⟨b, 0, none⟩)); rw [World.size_alloc] at this; exact this
    have HTS := hide (show t.size ≤ 4611686018427387904 from by unfold Tr.size; rw [HLI.out, HROW.out.len]; omega)
    have HSZ := hide (show w.heap.size + 2 ≤ X0.heap.size from by omega)
    clear hX0 hY hVs hVX hX0s hfn
    apply wpIn_range (ck := false) (gf := 51) (lb := #[.pointer (some ⟨X0.heap.size + 1, 0, none⟩)]) rfl (enters_of Try.func51 (by kernel_rfl) rfl) (all1_rope (X0.heap.size + 1) b t HTS.out) (fun _ => rfl)
      (fun pre X => TMid X0 b pre.length X) (fun c pre X => False) (fun pre X h => ⟨h.rope.cell, rp0.below h.old⟩)
      (fun pre X Y h hc => h.kept hc.below (by omega)) (fun c pre X Y h hc => h.elim) h0 _ ?assign ?body ?done ?stop
    case assign =>
      intro m y x W K hK
      gi_wp2
      exact hK
    case stop =>
      rintro D c pre W hD hWs hpre hI hK
      exact hI.elim
    case body =>
      rintro m y pre x X hM hpre hXs
      rw [HLI.out] at hpre
      obtain ⟨hpl, rfl⟩ := ats_next2 hpre
      obtain ⟨q, hq⟩ : ∃ q, pre.length = q := ⟨_, rfl⟩
      rw [hq] at hM hpl
      rw [hq]
      have HPL := hide (show (pre ++ [((q : Nat), l.getD q 0)]).length = q + 1 from by simp [hq])
      have hsz := HSZ.out
      have cn := hM.num.cell
      have fn := hM.num.frozen
      have cL : X.cell? ⟨w.heap.size, 0, none⟩ = some (.slice ao n cap) := (Below.cell hM.old (by show w.heap.size < _; omega)).trans bL0.cell
      have hqn : q < n := by have := HROW.out.len; omega
      obtain ⟨b0, o0, hao, hbl0, hc0⟩ := HROW.out.cells (by omega)
      have cq : X.cell? ⟨b0, o0 + q, none⟩ = some (.int .i32 (l.getD q 0)) := (Below.cell (KO.on kX0 hM.old) (by exact hbl0)).trans (hc0 q hpl)
      rw [hao] at cL
      have HM := hide hM
      have HYS := hide hYs
      have e3 : (q : Int) < (n : Int) := by omega
      have hq62 : q + 1 ≤ 4611686018427387904 := by omega
      generalize l.getD q 0 = xx at *
      generalize hQ : rPost _ _ _ _ X = Q
      have HQ := hide hQ
      clear hQ hM hpre hXs hpl hq hc0 hao
      gi_wp2_with fail
      rw [← HQ.out]
      have hys := HYS.out
      refine ⟨Beyond.setCell X (by show X0.heap.size < _; omega) _, ?_⟩
      show TMid X0 b (pre ++ [((q : Nat), xx)]).length _
      rw [HPL.out]; exact HM.out.set (q + 1)
    case done =>
      rintro D W hD hWs hM hK
      rw [ats_len, HLI.out, HROW.out.len] at hM
      have hsz := HSZ.out
      have cn := hM.num.cell
      have cL : W.cell? ⟨w.heap.size, 0, none⟩ = some (.slice ao n cap) := (Below.cell hM.old (by show w.heap.size < _; omega)).trans bL0.cell
      have bR1 : Boxed W (w.heap.size + 1) 4 (.bool false) := (Below.block hM.old _ (by omega)).trans bR0
      have cR := bR1.cell
      have fR := bR1.frozen
      have HKW := hide (KO.on kX0 hM.old)
      have HDD := hide (show w.heap.size + 2 ≤ D from by omega)
      clear hM hD hWs hsz
      gi_wp2_with fail
      have hdd := HDD.out
      obtain ⟨Z, hZ⟩ : ∃ Z, W.setCell ⟨w.heap.size + 1, 0, none⟩ (.bool true) = Z := ⟨_, rfl⟩
      rw [hZ]
      have zR : Boxed Z (w.heap.size + 1) 4 (.bool true) := by rw [← hZ]; exact bR1.set _
      have z1 : Z.heap[D]? = some (.deferred (some [])) := by rw [← hZ, Below.heap_setCell _ _ _ _ (by show D ≠ w.heap.size + 1; omega)]; exact hK
      have zk : KO w Z := by rw [← hZ]; exact Below.setCell HKW.out (by show w.heap.size ≤ w.heap.size + 1; omega) _
      refine ⟨by simp, .inl ⟨_, _, rfl, run_takeDeferred z1, ?_⟩⟩
      have yR : Boxed (Z.putObj D (.deferred none)) (w.heap.size + 1) 4 (.bool true) := (World.putObj_heap_other (by omega)).trans zR
      exact ⟨_, tells_results _ _ _ yR _ (by rfl), rfl, Below.trans zk (below_put (by omega) _)⟩)
end Go.Proofs.Yteiljaecaahonaa
