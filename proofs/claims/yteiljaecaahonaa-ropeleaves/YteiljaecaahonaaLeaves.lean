/- RopeLeaves: a walk through a rope may be left anywhere, and tells the same when it is begun again. -/
import Derived.Test.YteiljaecaahonaaAll
import Derived.Test.YteiljaecaahonaaWk
import Derived.Test.YteiljaecaahonaaFnil
namespace Go.Proofs.Yteiljaecaahonaa
open Go.RowKit Go.Shelf
set_option linter.unusedVariables false
set_option maxHeartbeats 2000000
set_option maxRecDepth 100000
attribute [local go_sem] Oper.semAt_some
/-- The variable n of a round lies in the block that was new when the round began. -/
structure LMid (X0 : World) (b m : Nat) (X : World) : Prop where
  old : KO X0 X
  num : Boxed X X0.heap.size 3 (.int .i64 (m : Int))
  rope : Boxed X (X0.heap.size + 1) 24 (.pointer (some ⟨b, 0, none⟩))
theorem LMid.kept {X0 : World} {b m : Nat} {X Y : World} {B : Nat} (h : LMid X0 b m X) (hb : Below B X Y) (hB : X0.heap.size + 2 ≤ B) : LMid X0 b m Y :=
  ⟨Below.trans h.old (hb.mono (by omega)), (hb.block _ (by omega)).trans h.num, (hb.block _ (by omega)).trans h.rope⟩
theorem LMid.set {X0 : World} {b m : Nat} {X : World} (h : LMid X0 b m X) (m' : Nat) : LMid X0 b m' (X.setCell ⟨X0.heap.size, 0, none⟩ (.int .i64 (m' : Int))) :=
  ⟨Below.setCell h.old (by exact Nat.le_refl _) _, h.num.set _, h.rope.other (by omega) _⟩
theorem ats_next {l : List Int} {pre : List (Nat × Int)} {x : Nat × Int} (h : pre ++ [x] <+: ats l) : pre.length < l.length ∧ x = (pre.length, l.getD pre.length 0) := by
  have h1 := (prefix_at h).1
  have h2 := (List.getElem?_eq_some_iff.1 h1).1
  rw [ats_len] at h2
  refine ⟨h2, ?_⟩
  have h3 := ats_at l pre.length _ (List.getElem?_eq_getElem h2)
  rw [h1] at h3
  simp only [Option.some.injEq] at h3
  rw [h3]
  simp [List.getD, List.getElem?_eq_getElem h2]
theorem leaves_results (W : World) (b1 : Nat) (x : Bool) (h1 : Boxed W b1 4 (.bool x)) (tmps : Array Value) (t1 : tmps.getD 4 undef = .pointer (some ⟨b1, 0, none⟩)) :
    (results Try.f6 tmps).run Try.prog W = .ok (.bool x) W := by
  have c1 := h1.cell
  have t1' : tmps[4]?.getD undef = .pointer (some ⟨b1, 0, none⟩) := by simpa using t1
  simp only [results, Try.results6]
  simp [go_sem, t1', c1]
theorem RopeLeaves_walk (w : World) (a0 : Option Addr) (n0 cap0 : Nat) (l : List Int) (h0 : Row .i32 w a0 n0 cap0 l) (hf0 : ∀ x ∈ l, (Lit.int .i32 x).wf = true) (hs0 : n0 * 4 ≤ 140737488351232)
    (at0 : Int) (hat : (Lit.int .i64 at0).wf = true) :
    Calls Try.prog 6 #[.slice a0 n0 cap0, .int .i64 at0] w fun e w' => e = .returned (.bool true) ∧ Below w.heap.size w w' := by
  obtain ⟨V, hV⟩ : ∃ V, (w.alloc (Obj.cells #[Value.slice a0 n0 cap0] 22)).alloc (Obj.cells #[Value.bool false] 4) = V := ⟨_, rfl⟩
  have hkV : KO w V := by rw [← hV]; exact KO.alloc (KO.alloc (KO.refl _) _) _
  have hVs : V.heap.size = w.heap.size + 2 := by rw [← hV]; simp
  have bL : Boxed V w.heap.size 22 (.slice a0 n0 cap0) := by rw [← hV]; exact (Boxed.new w _ _).alloc _
  have bR : Boxed V (w.heap.size + 1) 4 (.bool false) := by
    rw [← hV]; have := Boxed.new (w.alloc (Obj.cells #[Value.slice a0 n0 cap0] 22)) 4 (.bool false); rw [World.size_alloc] at this; exact this
  have cL := bL.cell
  have HN := hide (new_any a0 n0 cap0 l V (h0.below hkV) hf0 (by omega))
  have HKV := hide hkV
  have HVS := hide hVs
  have HBL := hide bL
  have HBR := hide bR
  have H0 := hide h0
  clear hkV hVs bL bR h0
  refine (callsIn_wide (n := 3)).1 ?_
  refine callsIn_of_wp_marks Try.func6 rfl trivial ?_
  simp only [Try.ntmps6, List.size_toArray, List.length_cons, List.length_nil, Nat.reduceAdd, Nat.reduceSub, Array.replicate_succ, Array.replicate_zero, List.push_toArray, List.append_toArray, List.nil_append, List.cons_append]
  gi_wp2_with fail
  clear hV
  refine ⟨trivial, ?_⟩
  refine (callsIn_wide.2 HN.out).mono ?_
  rintro e w2 ⟨b, t, rfl, hr, hl, hb2⟩
  have k2 : KO w w2 := KO.on HKV.out hb2
  have HR2 := hide hr
  have HLI := hide hl
  have HB2 := hide hb2
  clear hr hl hb2
  gi_wp2_with fail
  refine ⟨trivial, ?_⟩
  refine (callsIn_wide.2 (works_any w2)).mono ?_
  rintro e w3 ⟨rfl, hb3⟩
  have k3 : KO w w3 := KO.on k2 hb3
  have HB3 := hide hb3
  clear hb3
  gi_wp2_with fail
  refine ⟨trivial, ?_⟩
  refine (callsIn_wide.2 (All_any (some ⟨b, 0, none⟩) w3)).mono ?_
  rintro e w4 ⟨rfl, hw4⟩
  have hb4 : Below w3.heap.size w3 w4 := by rw [hw4]; exact (Below.refl _ _).alloc (Nat.le_refl _) _
  have hVs := HVS.out
  have hb24 : Below V.heap.size V w4 := HB2.out.trans ((HB3.out.trans (hb4.mono HB3.out.size)).mono HB2.out.size)
  have cL4 : w4.cell? ⟨w.heap.size, 0, none⟩ = some (.slice a0 n0 cap0) := (hb24.cell (by show w.heap.size < _; omega)).trans cL
  obtain ⟨k, hk, hAM⟩ := among_any at0 (n0 + 1) w4 hat (by omega) (by omega)
  rw [show ((n0 + 1 : Nat) : Int) = (n0 : Int) + 1 from by omega] at hAM
  have HA := hide hAM
  have HK := hide hk
  have k4 : KO w w4 := KO.on k3 hb4
  have HB24 := hide hb24
  have hn4 : n0 ≤ 35184372088832 := by omega
  have hfn := fun w' => fn_not_nil 51 #[Value.pointer (some ⟨w3.heap.size, 0, none⟩)] w'
  have HB4 := hide hb4
  clear hw4 hb4 hVs hb24 hAM hk cL hn4
  gi_wp2_with fail
  refine ⟨trivial, ?_⟩
  refine (callsIn_wide.2 HA.out).mono ?_
  rintro e w' ⟨rfl, rfl⟩
  gi_wp2_with fail
  obtain ⟨X1, hX1⟩ : ∃ X1, w4.alloc (Obj.cells #[Value.int IntKind.i64 (k : Int)] 3) = X1 := ⟨_, rfl⟩
  rw [hX1]
  have kX1 : KO w X1 := by rw [← hX1]; exact KO.alloc k4 _
  have hb41 : Below w4.heap.size w4 X1 := by rw [← hX1]; exact (Below.refl _ _).alloc (Nat.le_refl _) _
  have hVs := HVS.out
  have hb1 : Below V.heap.size V X1 := HB24.out.trans (hb41.mono HB24.out.size)
  have hw4s := HB24.out.size
  have hX1s : X1.heap.size = w4.heap.size + 1 := by rw [← hX1]; simp
  have bL1 : Boxed X1 w.heap.size 22 (.slice a0 n0 cap0) := (hb1.block _ (by omega)).trans HBL.out
  have bR1 : Boxed X1 (w.heap.size + 1) 4 (.bool false) := (hb1.block _ (by omega)).trans HBR.out
  have bK1 : Boxed X1 w4.heap.size 3 (.int .i64 (k : Int)) := by rw [← hX1]; exact Boxed.new _ _ _
  have rp2 := HR2.out
  have hlt2 := rp2.lt
  have k24 : KO w2 w4 := by
    have := HB3.out
    exact KO.on (show KO w2 w3 from this) HB4.out
  have rp1 : IsRope X1 b t := (rp2.below k24).below hb41
  have HX1S := hide hX1s
  clear cL4 hfn hX1 hX1s
  generalize hbK : w4.heap.size = bK at *
  -- ROUNDS
  have HBS1 := hide (show w.heap.size + 1 < bK ∧ bK < X1.heap.size from by have := HX1S.out; omega)
  have HTS := hide (show t.size ≤ 4611686018427387904 from by unfold Tr.size; rw [HLI.out, H0.out.len]; omega)
  have HBK := hide hbK
  have HB41 := hide hb41
  have HB1 := hide hb1
  clear hbK hb41 hb1 hVs hw4s rp2 hlt2 k24
  refine wpIn_loop_rounds 3 ?_
  rw [roundsIn_succ]
  gi_wp2_with fail
  refine ⟨trivial, ?_⟩
  refine (callsIn_wide.2 (All_any (some ⟨b, 0, none⟩) _)).mono ?_
  rintro e w' ⟨rfl, rfl⟩
  gi_wp2_with fail
  obtain ⟨Y1, hY1⟩ : ∃ Y1, (X1.alloc (Obj.cells #[Value.int IntKind.i64 0] 3)).alloc (Obj.cells #[Value.pointer (some ⟨b, 0, none⟩)] 24) = Y1 := ⟨_, rfl⟩
  rw [hY1]
  have hYs1 : Y1.heap.size = X1.heap.size + 2 := by rw [← hY1]; simp
  have h01 : LMid X1 b 0 Y1 := by
    rw [← hY1]
    refine ⟨KO.alloc (KO.alloc (KO.refl _) _) _, (Boxed.new X1 _ _).alloc _, ?_⟩
    have := Boxed.new (X1.alloc (Obj.cells #[Value.int IntKind.i64 0] 3)) 24 (.pointer (some ⟨b, 0, none⟩)); rw [World.size_alloc] at this; exact this
  clear hY1
  apply wpIn_range (ck := false) (gf := 51) (lb := #[.pointer (some ⟨X1.heap.size + 1, 0, none⟩)]) rfl (enters_of Try.func51 (by kernel_rfl) rfl) (all1_rope (X1.heap.size + 1) b t HTS.out) (fun _ => rfl)
    (fun pre X => pre.length ≤ k ∧ LMid X1 b pre.length X) (fun c pre X => c = .exit 2 ∧ LMid X1 b k X) (fun pre X h => ⟨h.2.rope.cell, rp1.below h.2.old⟩)
    (fun pre X Y h hc => ⟨h.1, h.2.kept hc.below (by omega)⟩) (fun c pre X Y h hc => ⟨h.1, h.2.kept hc.below (by omega)⟩) ⟨Nat.zero_le _, h01⟩ _ ?assign1 ?body1 ?done1 ?stop1
  case assign1 =>
    intro m y x W K hK
    gi_wp2
    exact hK
  case body1 =>
    rintro m y pre x X ⟨hle, hM⟩ hpre hXs
    rw [HLI.out] at hpre
    obtain ⟨hpl, rfl⟩ := ats_next hpre
    obtain ⟨q, hq⟩ : ∃ q, pre.length = q := ⟨_, rfl⟩
    rw [hq] at hle hM hpl
    rw [hq]
    have HPL := hide (show (pre ++ [((q : Nat), l.getD q 0)]).length = q + 1 from by simp [hq])
    have hbsz := HBS1.out
    have cn := hM.num.cell
    have fn := hM.num.frozen
    have cK : X.cell? ⟨bK, 0, none⟩ = some (.int .i64 (k : Int)) := (Below.cell hM.old (by show bK < _; omega)).trans bK1.cell
    have cL : X.cell? ⟨w.heap.size, 0, none⟩ = some (.slice a0 n0 cap0) := (Below.cell hM.old (by show w.heap.size < _; omega)).trans bL1.cell
    have hqn : q < n0 := by have := H0.out.len; omega
    obtain ⟨b0, o0, hao, hbl0, hc0⟩ := H0.out.cells (by omega)
    have cq : X.cell? ⟨b0, o0 + q, none⟩ = some (.int .i32 (l.getD q 0)) := (Below.cell (KO.on kX1 hM.old) (by exact hbl0)).trans (hc0 q hpl)
    rw [hao] at cL
    have HM := hide hM
    have HLE := hide hle
    have HYS := hide hYs1
    generalize l.getD q 0 = xx at *
    generalize hQ : rPost _ _ _ _ X = Q
    have HQ := hide hQ
    by_cases hqk : q = k
    · have e2 : ((q : Int) == (k : Int)) = true := beq_iff_eq.2 (by omega)
      have HQK := hide hqk
      clear hQ hM hpre hXs hle hpl hq hc0 hqk hao
      gi_wp2_with fail
      rw [← HQ.out]
      refine ⟨Beyond.refl _ _, rfl, ?_⟩
      rw [← HQK.out]; exact HM.out
    · have e2 : ((q : Int) == (k : Int)) = false := beq_false_of_ne (by omega)
      have e3 : (q : Int) < (n0 : Int) := by omega
      have HQK := hide (show q + 1 ≤ k from by omega)
      have hq62 : q + 1 ≤ 4611686018427387904 := by omega
      clear hQ hM hpre hXs hle hpl hq hc0 hqk hao
      gi_wp2_with fail
      rw [← HQ.out]
      have hys := HYS.out
      refine ⟨Beyond.setCell X (by show X1.heap.size < _; omega) _, ?_, ?_⟩
      · rw [HPL.out]; exact HQK.out
      · rw [HPL.out]; exact HM.out.set (q + 1)
  case done1 =>
    rintro D1 X2 hD1 hWs1 ⟨hle, hM⟩ hK1
    have hkk : (ats t.list).length = k := by rw [ats_len, HLI.out, H0.out.len]; rw [ats_len, HLI.out, H0.out.len] at hle; have := HK.out; omega
    rw [hkk] at hM
    clear hkk hle
    have hbsz := HBS1.out
    have hys := hYs1
    have kX2 : KO w X2 := KO.on kX1 hM.old
    have bL2 : Boxed X2 w.heap.size 22 (.slice a0 n0 cap0) := (Below.block hM.old _ (by omega)).trans bL1
    have bR2 : Boxed X2 (w.heap.size + 1) 4 (.bool false) := (Below.block hM.old _ (by omega)).trans bR1
    have bK2 : Boxed X2 bK 3 (.int .i64 (k : Int)) := (Below.block hM.old _ (by omega)).trans bK1
    have rp2 : IsRope X2 b t := rp1.below hM.old
    have HBS2 := hide (show w.heap.size + 1 < bK ∧ bK < X2.heap.size from ⟨hbsz.1, Nat.lt_of_lt_of_le hbsz.2 (Below.size hM.old)⟩)
    have hDlt1 : D1 < X2.heap.size := (Array.getElem?_eq_some_iff.1 hK1).1
    have HDL1 := hide hDlt1
    have HDG1 := hide (show X1.heap.size + 2 ≤ D1 from by omega)
    have cn := hM.num.cell
    have cK := bK2.cell
    have HWS1 := hide (show w.heap.size + 2 ≤ D1 from by omega)
    clear hM hbsz hys
    gi_wp2_with fail
    clear cn cK
    rw [roundsIn_succ]
    gi_wp2_with fail
    refine ⟨trivial, ?_⟩
    refine (callsIn_wide.2 (All_any (some ⟨b, 0, none⟩) _)).mono ?_
    rintro e w' ⟨rfl, rfl⟩
    gi_wp2_with fail
    obtain ⟨Y2, hY2⟩ : ∃ Y2, (X2.alloc (Obj.cells #[Value.int IntKind.i64 0] 3)).alloc (Obj.cells #[Value.pointer (some ⟨b, 0, none⟩)] 24) = Y2 := ⟨_, rfl⟩
    rw [hY2]
    have hYs2 : Y2.heap.size = X2.heap.size + 2 := by rw [← hY2]; simp
    have h02 : LMid X2 b 0 Y2 := by
      rw [← hY2]
      refine ⟨KO.alloc (KO.alloc (KO.refl _) _) _, (Boxed.new X2 _ _).alloc _, ?_⟩
      have := Boxed.new (X2.alloc (Obj.cells #[Value.int IntKind.i64 0] 3)) 24 (.pointer (some ⟨b, 0, none⟩)); rw [World.size_alloc] at this; exact this
    clear hY2
    apply wpIn_range (ck := false) (gf := 51) (lb := #[.pointer (some ⟨X2.heap.size + 1, 0, none⟩)]) rfl (enters_of Try.func51 (by kernel_rfl) rfl) (all1_rope (X2.heap.size + 1) b t HTS.out) (fun _ => rfl)
      (fun pre X => pre.length ≤ k ∧ LMid X2 b pre.length X) (fun c pre X => c = .exit 2 ∧ LMid X2 b k X) (fun pre X h => ⟨h.2.rope.cell, rp2.below h.2.old⟩)
      (fun pre X Y h hc => ⟨h.1, h.2.kept hc.below (by omega)⟩) (fun c pre X Y h hc => ⟨h.1, h.2.kept hc.below (by omega)⟩) ⟨Nat.zero_le _, h02⟩ _ ?assign2 ?body2 ?done2 ?stop2
    case assign2 =>
      intro m y x W K hK
      gi_wp2
      exact hK
    case body2 =>
      rintro m y pre x X ⟨hle, hM⟩ hpre hXs
      rw [HLI.out] at hpre
      obtain ⟨hpl, rfl⟩ := ats_next hpre
      obtain ⟨q, hq⟩ : ∃ q, pre.length = q := ⟨_, rfl⟩
      rw [hq] at hle hM hpl
      rw [hq]
      have HPL := hide (show (pre ++ [((q : Nat), l.getD q 0)]).length = q + 1 from by simp [hq])
      have hbsz := HBS2.out
      have cn := hM.num.cell
      have fn := hM.num.frozen
      have cK : X.cell? ⟨bK, 0, none⟩ = some (.int .i64 (k : Int)) := (Below.cell hM.old (by show bK < _; omega)).trans bK2.cell
      have cL : X.cell? ⟨w.heap.size, 0, none⟩ = some (.slice a0 n0 cap0) := (Below.cell hM.old (by show w.heap.size < _; omega)).trans bL2.cell
      have hqn : q < n0 := by have := H0.out.len; omega
      obtain ⟨b0, o0, hao, hbl0, hc0⟩ := H0.out.cells (by omega)
      have cq : X.cell? ⟨b0, o0 + q, none⟩ = some (.int .i32 (l.getD q 0)) := (Below.cell (KO.on kX2 hM.old) (by exact hbl0)).trans (hc0 q hpl)
      rw [hao] at cL
      have HM := hide hM
      have HLE := hide hle
      have HYS := hide hYs2
      generalize l.getD q 0 = xx at *
      generalize hQ : rPost _ _ _ _ X = Q
      have HQ := hide hQ
      by_cases hqk : q = k
      · have e2 : ((q : Int) == (k : Int)) = true := beq_iff_eq.2 (by omega)
        have HQK := hide hqk
        clear hQ hM hpre hXs hle hpl hq hc0 hqk hao
        gi_wp2_with fail
        rw [← HQ.out]
        refine ⟨Beyond.refl _ _, rfl, ?_⟩
        rw [← HQK.out]; exact HM.out
      · have e2 : ((q : Int) == (k : Int)) = false := beq_false_of_ne (by omega)
        have e3 : (q : Int) < (n0 : Int) := by omega
        have HQK := hide (show q + 1 ≤ k from by omega)
        have hq62 : q + 1 ≤ 4611686018427387904 := by omega
        clear hQ hM hpre hXs hle hpl hq hc0 hqk hao
        gi_wp2_with fail
        rw [← HQ.out]
        have hys := HYS.out
        refine ⟨Beyond.setCell X (by show X2.heap.size < _; omega) _, ?_, ?_⟩
        · rw [HPL.out]; exact HQK.out
        · rw [HPL.out]; exact HM.out.set (q + 1)
    case done2 =>
      rintro D2 X3 hD2 hWs2 ⟨hle, hM⟩ hK2
      have hkk : (ats t.list).length = k := by rw [ats_len, HLI.out, H0.out.len]; rw [ats_len, HLI.out, H0.out.len] at hle; have := HK.out; omega
      rw [hkk] at hM
      clear hkk hle
      have hbsz := HBS2.out
      have hys := hYs2
      have kX3 : KO w X3 := KO.on kX2 hM.old
      have bL3 : Boxed X3 w.heap.size 22 (.slice a0 n0 cap0) := (Below.block hM.old _ (by omega)).trans bL2
      have bR3 : Boxed X3 (w.heap.size + 1) 4 (.bool false) := (Below.block hM.old _ (by omega)).trans bR2
      have bK3 : Boxed X3 bK 3 (.int .i64 (k : Int)) := (Below.block hM.old _ (by omega)).trans bK2
      have rp3 : IsRope X3 b t := rp2.below hM.old
      have HBS3 := hide (show w.heap.size + 1 < bK ∧ bK < X3.heap.size from ⟨hbsz.1, Nat.lt_of_lt_of_le hbsz.2 (Below.size hM.old)⟩)
      have hDlt2 : D2 < X3.heap.size := (Array.getElem?_eq_some_iff.1 hK2).1
      have HDL2 := hide hDlt2
      have HDG2 := hide (show X2.heap.size + 2 ≤ D2 from by omega)
      have cn := hM.num.cell
      have cK := bK3.cell
      have hK1' := (Below.block hM.old D1 hDlt1).trans hK1
      have HWS2 := hide (show w.heap.size + 2 ≤ D2 from by omega)
      clear hM hbsz hys
      gi_wp2_with fail
      clear cn cK
      clear hK1
      have hK1 := hK1'
      clear hK1'
      have hDlt1b : D1 < X3.heap.size := (Array.getElem?_eq_some_iff.1 hK1).1
      clear hDlt1
      have hDlt1 := hDlt1b
      clear hDlt1b
      rw [roundsIn_succ]
      have cR := bR3.cell
      have fR := bR3.frozen
      gi_wp2_with fail
      have q1 : w.heap.size + 2 ≤ D1 := HWS1.out
      have q2 : w.heap.size + 2 ≤ D2 := HWS2.out
      have q3 : D1 < D2 := by have := HDL1.out; have := HDG2.out; omega
      obtain ⟨Z, hZ⟩ : ∃ Z, X3.setCell ⟨w.heap.size + 1, 0, none⟩ (.bool true) = Z := ⟨_, rfl⟩
      rw [hZ]
      have zR : Boxed Z (w.heap.size + 1) 4 (.bool true) := by rw [← hZ]; exact bR3.set _
      have z1 : Z.heap[D1]? = some (.deferred (some [])) := by rw [← hZ, Below.heap_setCell _ _ _ _ (by show D1 ≠ w.heap.size + 1; omega)]; exact hK1
      have z2 : Z.heap[D2]? = some (.deferred (some [])) := by rw [← hZ, Below.heap_setCell _ _ _ _ (by show D2 ≠ w.heap.size + 1; omega)]; exact hK2
      have zk : KO w Z := by rw [← hZ]; exact Below.setCell kX3 (by show w.heap.size ≤ w.heap.size + 1; omega) _
      refine ⟨by simp, .inl ⟨_, _, rfl, run_takeDeferred z2, ?_⟩⟩
      refine ⟨by simp, .inl ⟨_, _, rfl, run_takeDeferred (World.putObj_heap_other (by omega) |>.trans z1), ?_⟩⟩
      have yR : Boxed ((Z.putObj D2 (.deferred none)).putObj D1 (.deferred none)) (w.heap.size + 1) 4 (.bool true) := (World.putObj_heap_other (by omega)).trans ((World.putObj_heap_other (by omega)).trans zR)
      exact ⟨_, leaves_results _ _ _ yR _ (by rfl), rfl, (Below.trans zk (below_put (by omega) _)).trans (below_put (by omega) _)⟩
    case stop2 =>
      rintro D2 c pre X3 hD2 hWs2 hpre ⟨rfl, hM⟩ hK2
      clear hpre
      have hbsz := HBS2.out
      have hys := hYs2
      have kX3 : KO w X3 := KO.on kX2 hM.old
      have bL3 : Boxed X3 w.heap.size 22 (.slice a0 n0 cap0) := (Below.block hM.old _ (by omega)).trans bL2
      have bR3 : Boxed X3 (w.heap.size + 1) 4 (.bool false) := (Below.block hM.old _ (by omega)).trans bR2
      have bK3 : Boxed X3 bK 3 (.int .i64 (k : Int)) := (Below.block hM.old _ (by omega)).trans bK2
      have rp3 : IsRope X3 b t := rp2.below hM.old
      have HBS3 := hide (show w.heap.size + 1 < bK ∧ bK < X3.heap.size from ⟨hbsz.1, Nat.lt_of_lt_of_le hbsz.2 (Below.size hM.old)⟩)
      have hDlt2 : D2 < X3.heap.size := (Array.getElem?_eq_some_iff.1 hK2).1
      have HDL2 := hide hDlt2
      have HDG2 := hide (show X2.heap.size + 2 ≤ D2 from by omega)
      have cn := hM.num.cell
      have cK := bK3.cell
      have hK1' := (Below.block hM.old D1 hDlt1).trans hK1
      have HWS2 := hide (show w.heap.size + 2 ≤ D2 from by omega)
      clear hM hbsz hys
      gi_wp2_with fail
      clear cn cK
      clear hK1
      have hK1 := hK1'
      clear hK1'
      have hDlt1b : D1 < X3.heap.size := (Array.getElem?_eq_some_iff.1 hK1).1
      clear hDlt1
      have hDlt1 := hDlt1b
      clear hDlt1b
      rw [roundsIn_succ]
      have cR := bR3.cell
      have fR := bR3.frozen
      gi_wp2_with fail
      have q1 : w.heap.size + 2 ≤ D1 := HWS1.out
      have q2 : w.heap.size + 2 ≤ D2 := HWS2.out
      have q3 : D1 < D2 := by have := HDL1.out; have := HDG2.out; omega
      obtain ⟨Z, hZ⟩ : ∃ Z, X3.setCell ⟨w.heap.size + 1, 0, none⟩ (.bool true) = Z := ⟨_, rfl⟩
      rw [hZ]
      have zR : Boxed Z (w.heap.size + 1) 4 (.bool true) := by rw [← hZ]; exact bR3.set _
      have z1 : Z.heap[D1]? = some (.deferred (some [])) := by rw [← hZ, Below.heap_setCell _ _ _ _ (by show D1 ≠ w.heap.size + 1; omega)]; exact hK1
      have z2 : Z.heap[D2]? = some (.deferred (some [])) := by rw [← hZ, Below.heap_setCell _ _ _ _ (by show D2 ≠ w.heap.size + 1; omega)]; exact hK2
      have zk : KO w Z := by rw [← hZ]; exact Below.setCell kX3 (by show w.heap.size ≤ w.heap.size + 1; omega) _
      refine ⟨by simp, .inl ⟨_, _, rfl, run_takeDeferred z2, ?_⟩⟩
      refine ⟨by simp, .inl ⟨_, _, rfl, run_takeDeferred (World.putObj_heap_other (by omega) |>.trans z1), ?_⟩⟩
      have yR : Boxed ((Z.putObj D2 (.deferred none)).putObj D1 (.deferred none)) (w.heap.size + 1) 4 (.bool true) := (World.putObj_heap_other (by omega)).trans ((World.putObj_heap_other (by omega)).trans zR)
      exact ⟨_, leaves_results _ _ _ yR _ (by rfl), rfl, (Below.trans zk (below_put (by omega) _)).trans (below_put (by omega) _)⟩
  case stop1 =>
    rintro D1 c pre X2 hD1 hWs1 hpre ⟨rfl, hM⟩ hK1
    clear hpre
    have hbsz := HBS1.out
    have hys := hYs1
    have kX2 : KO w X2 := KO.on kX1 hM.old
    have bL2 : Boxed X2 w.heap.size 22 (.slice a0 n0 cap0) := (Below.block hM.old _ (by omega)).trans bL1
    have bR2 : Boxed X2 (w.heap.size + 1) 4 (.bool false) := (Below.block hM.old _ (by omega)).trans bR1
    have bK2 : Boxed X2 bK 3 (.int .i64 (k : Int)) := (Below.block hM.old _ (by omega)).trans bK1
    have rp2 : IsRope X2 b t := rp1.below hM.old
    have HBS2 := hide (show w.heap.size + 1 < bK ∧ bK < X2.heap.size from ⟨hbsz.1, Nat.lt_of_lt_of_le hbsz.2 (Below.size hM.old)⟩)
    have hDlt1 : D1 < X2.heap.size := (Array.getElem?_eq_some_iff.1 hK1).1
    have HDL1 := hide hDlt1
    have HDG1 := hide (show X1.heap.size + 2 ≤ D1 from by omega)
    have cn := hM.num.cell
    have cK := bK2.cell
    have HWS1 := hide (show w.heap.size + 2 ≤ D1 from by omega)
    clear hM hbsz hys
    gi_wp2_with fail
    clear cn cK
    rw [roundsIn_succ]
    gi_wp2_with fail
    refine ⟨trivial, ?_⟩
    refine (callsIn_wide.2 (All_any (some ⟨b, 0, none⟩) _)).mono ?_
    rintro e w' ⟨rfl, rfl⟩
    gi_wp2_with fail
    obtain ⟨Y2, hY2⟩ : ∃ Y2, (X2.alloc (Obj.cells #[Value.int IntKind.i64 0] 3)).alloc (Obj.cells #[Value.pointer (some ⟨b, 0, none⟩)] 24) = Y2 := ⟨_, rfl⟩
    rw [hY2]
    have hYs2 : Y2.heap.size = X2.heap.size + 2 := by rw [← hY2]; simp
    have h02 : LMid X2 b 0 Y2 := by
      rw [← hY2]
      refine ⟨KO.alloc (KO.alloc (KO.refl _) _) _, (Boxed.new X2 _ _).alloc _, ?_⟩
      have := Boxed.new (X2.alloc (Obj.cells #[Value.int IntKind.i64 0] 3)) 24 (.pointer (some ⟨b, 0, none⟩)); rw [World.size_alloc] at this; exact this
    clear hY2
    apply wpIn_range (ck := false) (gf := 51) (lb := #[.pointer (some ⟨X2.heap.size + 1, 0, none⟩)]) rfl (enters_of Try.func51 (by kernel_rfl) rfl) (all1_rope (X2.heap.size + 1) b t HTS.out) (fun _ => rfl)
      (fun pre X => pre.length ≤ k ∧ LMid X2 b pre.length X) (fun c pre X => c = .exit 2 ∧ LMid X2 b k X) (fun pre X h => ⟨h.2.rope.cell, rp2.below h.2.old⟩)
      (fun pre X Y h hc => ⟨h.1, h.2.kept hc.below (by omega)⟩) (fun c pre X Y h hc => ⟨h.1, h.2.kept hc.below (by omega)⟩) ⟨Nat.zero_le _, h02⟩ _ ?assign3 ?body3 ?done3 ?stop3
    case assign3 =>
      intro m y x W K hK
      gi_wp2
      exact hK
    case body3 =>
      rintro m y pre x X ⟨hle, hM⟩ hpre hXs
      rw [HLI.out] at hpre
      obtain ⟨hpl, rfl⟩ := ats_next hpre
      obtain ⟨q, hq⟩ : ∃ q, pre.length = q := ⟨_, rfl⟩
      rw [hq] at hle hM hpl
      rw [hq]
      have HPL := hide (show (pre ++ [((q : Nat), l.getD q 0)]).length = q + 1 from by simp [hq])
      have hbsz := HBS2.out
      have cn := hM.num.cell
      have fn := hM.num.frozen
      have cK : X.cell? ⟨bK, 0, none⟩ = some (.int .i64 (k : Int)) := (Below.cell hM.old (by show bK < _; omega)).trans bK2.cell
      have cL : X.cell? ⟨w.heap.size, 0, none⟩ = some (.slice a0 n0 cap0) := (Below.cell hM.old (by show w.heap.size < _; omega)).trans bL2.cell
      have hqn : q < n0 := by have := H0.out.len; omega
      obtain ⟨b0, o0, hao, hbl0, hc0⟩ := H0.out.cells (by omega)
      have cq : X.cell? ⟨b0, o0 + q, none⟩ = some (.int .i32 (l.getD q 0)) := (Below.cell (KO.on kX2 hM.old) (by exact hbl0)).trans (hc0 q hpl)
      rw [hao] at cL
      have HM := hide hM
      have HLE := hide hle
      have HYS := hide hYs2
      generalize l.getD q 0 = xx at *
      generalize hQ : rPost _ _ _ _ X = Q
      have HQ := hide hQ
      by_cases hqk : q = k
      · have e2 : ((q : Int) == (k : Int)) = true := beq_iff_eq.2 (by omega)
        have HQK := hide hqk
        clear hQ hM hpre hXs hle hpl hq hc0 hqk hao
        gi_wp2_with fail
        rw [← HQ.out]
        refine ⟨Beyond.refl _ _, rfl, ?_⟩
        rw [← HQK.out]; exact HM.out
      · have e2 : ((q : Int) == (k : Int)) = false := beq_false_of_ne (by omega)
        have e3 : (q : Int) < (n0 : Int) := by omega
        have HQK := hide (show q + 1 ≤ k from by omega)
        have hq62 : q + 1 ≤ 4611686018427387904 := by omega
        clear hQ hM hpre hXs hle hpl hq hc0 hqk hao
        gi_wp2_with fail
        rw [← HQ.out]
        have hys := HYS.out
        refine ⟨Beyond.setCell X (by show X2.heap.size < _; omega) _, ?_, ?_⟩
        · rw [HPL.out]; exact HQK.out
        · rw [HPL.out]; exact HM.out.set (q + 1)
    case done3 =>
      rintro D2 X3 hD2 hWs2 ⟨hle, hM⟩ hK2
      have hkk : (ats t.list).length = k := by rw [ats_len, HLI.out, H0.out.len]; rw [ats_len, HLI.out, H0.out.len] at hle; have := HK.out; omega
      rw [hkk] at hM
      clear hkk hle
      have hbsz := HBS2.out
      have hys := hYs2
      have kX3 : KO w X3 := KO.on kX2 hM.old
      have bL3 : Boxed X3 w.heap.size 22 (.slice a0 n0 cap0) := (Below.block hM.old _ (by omega)).trans bL2
      have bR3 : Boxed X3 (w.heap.size + 1) 4 (.bool false) := (Below.block hM.old _ (by omega)).trans bR2
      have bK3 : Boxed X3 bK 3 (.int .i64 (k : Int)) := (Below.block hM.old _ (by omega)).trans bK2
      have rp3 : IsRope X3 b t := rp2.below hM.old
      have HBS3 := hide (show w.heap.size + 1 < bK ∧ bK < X3.heap.size from ⟨hbsz.1, Nat.lt_of_lt_of_le hbsz.2 (Below.size hM.old)⟩)
      have hDlt2 : D2 < X3.heap.size := (Array.getElem?_eq_some_iff.1 hK2).1
      have HDL2 := hide hDlt2
      have HDG2 := hide (show X2.heap.size + 2 ≤ D2 from by omega)
      have cn := hM.num.cell
      have cK := bK3.cell
      have hK1' := (Below.block hM.old D1 hDlt1).trans hK1
      have HWS2 := hide (show w.heap.size + 2 ≤ D2 from by omega)
      clear hM hbsz hys
      gi_wp2_with fail
      clear cn cK
      clear hK1
      have hK1 := hK1'
      clear hK1'
      have hDlt1b : D1 < X3.heap.size := (Array.getElem?_eq_some_iff.1 hK1).1
      clear hDlt1
      have hDlt1 := hDlt1b
      clear hDlt1b
      rw [roundsIn_succ]
      have cR := bR3.cell
      have fR := bR3.frozen
      gi_wp2_with fail
      have q1 : w.heap.size + 2 ≤ D1 := HWS1.out
      have q2 : w.heap.size + 2 ≤ D2 := HWS2.out
      have q3 : D1 < D2 := by have := HDL1.out; have := HDG2.out; omega
      obtain ⟨Z, hZ⟩ : ∃ Z, X3.setCell ⟨w.heap.size + 1, 0, none⟩ (.bool true) = Z := ⟨_, rfl⟩
      rw [hZ]
      have zR : Boxed Z (w.heap.size + 1) 4 (.bool true) := by rw [← hZ]; exact bR3.set _
      have z1 : Z.heap[D1]? = some (.deferred (some [])) := by rw [← hZ, Below.heap_setCell _ _ _ _ (by show D1 ≠ w.heap.size + 1; omega)]; exact hK1
      have z2 : Z.heap[D2]? = some (.deferred (some [])) := by rw [← hZ, Below.heap_setCell _ _ _ _ (by show D2 ≠ w.heap.size + 1; omega)]; exact hK2
      have zk : KO w Z := by rw [← hZ]; exact Below.setCell kX3 (by show w.heap.size ≤ w.heap.size + 1; omega) _
      refine ⟨by simp, .inl ⟨_, _, rfl, run_takeDeferred z2, ?_⟩⟩
      refine ⟨by simp, .inl ⟨_, _, rfl, run_takeDeferred (World.putObj_heap_other (by omega) |>.trans z1), ?_⟩⟩
      have yR : Boxed ((Z.putObj D2 (.deferred none)).putObj D1 (.deferred none)) (w.heap.size + 1) 4 (.bool true) := (World.putObj_heap_other (by omega)).trans ((World.putObj_heap_other (by omega)).trans zR)
      exact ⟨_, leaves_results _ _ _ yR _ (by rfl), rfl, (Below.trans zk (below_put (by omega) _)).trans (below_put (by omega) _)⟩
    case stop3 =>
      rintro D2 c pre X3 hD2 hWs2 hpre ⟨rfl, hM⟩ hK2
      clear hpre
      have hbsz := HBS2.out
      have hys := hYs2
      have kX3 : KO w X3 := KO.on kX2 hM.old
      have bL3 : Boxed X3 w.heap.size 22 (.slice a0 n0 cap0) := (Below.block hM.old _ (by omega)).trans bL2
      have bR3 : Boxed X3 (w.heap.size + 1) 4 (.bool false) := (Below.block hM.old _ (by omega)).trans bR2
      have bK3 : Boxed X3 bK 3 (.int .i64 (k : Int)) := (Below.block hM.old _ (by omega)).trans bK2
      have rp3 : IsRope X3 b t := rp2.below hM.old
      have HBS3 := hide (show w.heap.size + 1 < bK ∧ bK < X3.heap.size from ⟨hbsz.1, Nat.lt_of_lt_of_le hbsz.2 (Below.size hM.old)⟩)
      have hDlt2 : D2 < X3.heap.size := (Array.getElem?_eq_some_iff.1 hK2).1
      have HDL2 := hide hDlt2
      have HDG2 := hide (show X2.heap.size + 2 ≤ D2 from by omega)
      have cn := hM.num.cell
      have cK := bK3.cell
      have hK1' := (Below.block hM.old D1 hDlt1).trans hK1
      have HWS2 := hide (show w.heap.size + 2 ≤ D2 from by omega)
      clear hM hbsz hys
      gi_wp2_with fail
      clear cn cK
      clear hK1
      have hK1 := hK1'
      clear hK1'
      have hDlt1b : D1 < X3.heap.size := (Array.getElem?_eq_some_iff.1 hK1).1
      clear hDlt1
      have hDlt1 := hDlt1b
      clear hDlt1b
      rw [roundsIn_succ]
      have cR := bR3.cell
      have fR := bR3.frozen
      gi_wp2_with fail
      have q1 : w.heap.size + 2 ≤ D1 := HWS1.out
      have q2 : w.heap.size + 2 ≤ D2 := HWS2.out
      have q3 : D1 < D2 := by have := HDL1.out; have := HDG2.out; omega
      obtain ⟨Z, hZ⟩ : ∃ Z, X3.setCell ⟨w.heap.size + 1, 0, none⟩ (.bool true) = Z := ⟨_, rfl⟩
      rw [hZ]
      have zR : Boxed Z (w.heap.size + 1) 4 (.bool true) := by rw [← hZ]; exact bR3.set _
      have z1 : Z.heap[D1]? = some (.deferred (some [])) := by rw [← hZ, Below.heap_setCell _ _ _ _ (by show D1 ≠ w.heap.size + 1; omega)]; exact hK1
      have z2 : Z.heap[D2]? = some (.deferred (some [])) := by rw [← hZ, Below.heap_setCell _ _ _ _ (by show D2 ≠ w.heap.size + 1; omega)]; exact hK2
      have zk : KO w Z := by rw [← hZ]; exact Below.setCell kX3 (by show w.heap.size ≤ w.heap.size + 1; omega) _
      refine ⟨by simp, .inl ⟨_, _, rfl, run_takeDeferred z2, ?_⟩⟩
      refine ⟨by simp, .inl ⟨_, _, rfl, run_takeDeferred (World.putObj_heap_other (by omega) |>.trans z1), ?_⟩⟩
      have yR : Boxed ((Z.putObj D2 (.deferred none)).putObj D1 (.deferred none)) (w.heap.size + 1) 4 (.bool true) := (World.putObj_heap_other (by omega)).trans ((World.putObj_heap_other (by omega)).trans zR)
      exact ⟨_, leaves_results _ _ _ yR _ (by rfl), rfl, (Below.trans zk (below_put (by omega) _)).trans (below_put (by omega) _)⟩
end Go.Proofs.Yteiljaecaahonaa
