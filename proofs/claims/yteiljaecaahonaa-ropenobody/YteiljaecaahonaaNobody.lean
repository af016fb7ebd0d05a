/- RopeNobody: ropes that are nil, or that no call made, tell nothing, and nothing is made of them. -/
import Derived.Test.YteiljaecaahonaaAll
import Derived.Test.YteiljaecaahonaaWk
import Derived.Test.YteiljaecaahonaaFnil
namespace Go.Proofs.Yteiljaecaahonaa
open Go.RowKit Go.Shelf
set_option linter.unusedVariables false
set_option maxHeartbeats 4000000
set_option maxRecDepth 100000
attribute [local go_sem] Oper.semAt_some
theorem nobody_results (W : World) (b1 : Nat) (x : Bool) (h1 : Boxed W b1 4 (.bool x)) (tmps : Array Value) (t1 : tmps.getD 6 undef = .pointer (some ⟨b1, 0, none⟩)) :
    (results Try.f4 tmps).run Try.prog W = .ok (.bool x) W := by
  have c1 := h1.cell
  have t1' : tmps[6]?.getD undef = .pointer (some ⟨b1, 0, none⟩) := by simpa using t1
  simp only [results, Try.results4]
  simp [go_sem, t1', c1]
/-- Eight ones. -/
theorem ones_at (W : World) (t : TypeId) (q : Nat) (h : q < 8) : (W.alloc (.cells #[.int .i64 1, .int .i64 1, .int .i64 1, .int .i64 1, .int .i64 1, .int .i64 1, .int .i64 1, .int .i64 1] t)).cell? ⟨W.heap.size, q, none⟩ = some (.int .i64 1) := by
  rw [World.cell?_alloc_mark]
  match q, h with
  | 0, _ => rfl
  | 1, _ => rfl
  | 2, _ => rfl
  | 3, _ => rfl
  | 4, _ => rfl
  | 5, _ => rfl
  | 6, _ => rfl
  | 7, _ => rfl
theorem RopeNobody_walk (w : World) (fr : Int) (hfr : (Lit.int .i64 fr).wf = true) (tu : Int) (htu : (Lit.int .i64 tu).wf = true) (a0 : Option Addr) (n0 cap0 : Nat) (l : List Int) (h0 : Row .i32 w a0 n0 cap0 l) (hf0 : ∀ x ∈ l, (Lit.int .i32 x).wf = true) (hs0 : n0 * 4 ≤ 140737488351232) :
    Calls Try.prog 4 #[.int .i64 fr, .int .i64 tu, .slice a0 n0 cap0] w fun e w' => e = .returned (.bool true) ∧ Below w.heap.size w w' := by
  obtain ⟨V, hV⟩ : ∃ V, w.alloc (Obj.cells #[Value.bool false] 4) = V := ⟨_, rfl⟩
  have hkV : KO w V := by rw [← hV]; exact KO.alloc (KO.refl _) _
  have hVs : V.heap.size = w.heap.size + 1 := by rw [← hV]; simp
  have bR : Boxed V w.heap.size 4 (.bool false) := by rw [← hV]; exact Boxed.new w _ _
  have HN := hide (new_any a0 n0 cap0 l V (h0.below hkV) hf0 (by omega))
  have HLL := hide h0.len
  have HKV := hide hkV
  have HVS := hide hVs
  have HBR := hide bR
  have hbz : ∀ w', (Instr.build 37 #[]).run Try.prog w' = .ok (.agg #[.bool false, .pointer none]) w' := fun w' => run_build w' 37 _ _ (by kernel_rfl)
  have hfn := fun bt w' => fn_not_nil 51 #[Value.pointer (some ⟨bt, 0, none⟩)] w'
  clear hkV hVs bR h0 hf0 hs0 hfr htu
  refine (callsIn_wide (n := 3)).1 ?_
  refine callsIn_of_wp_marks Try.func4 rfl trivial ?_
  simp only [Try.ntmps4, List.size_toArray, List.length_cons, List.length_nil, Nat.reduceAdd, Nat.reduceSub, Array.replicate_succ, Array.replicate_zero, List.push_toArray, List.append_toArray, List.nil_append, List.cons_append]
  gi_wp2_with fail
  clear hV
  refine ⟨trivial, ?_⟩
  refine (callsIn_wide.2 HN.out).mono ?_
  rintro e w2 ⟨b, t, rfl, hr, hl, hb2⟩
  have k2 : KO w w2 := KO.on HKV.out hb2
  have HR2 := hide hr
  have HLI := hide hl
  have HB2 := hide hb2
  clear hr hl hb2
  gi_wp2_with fail
  obtain ⟨X1, hX1⟩ : ∃ X1, ((w2.alloc (Obj.cells #[Value.bool false, Value.pointer none] 37)).alloc (Obj.cells #[Value.pointer none, Value.pointer (some ⟨w2.heap.size, 0, none⟩)] 24)) = X1 := ⟨_, rfl⟩
  rw [hX1]
  obtain ⟨bz, hbz2⟩ : ∃ bz, w2.heap.size = bz := ⟨_, rfl⟩
  have hb21 : Below w2.heap.size w2 X1 := by rw [← hX1]; exact ((Below.refl _ w2).alloc (Nat.le_refl _) _).alloc (by simp) _
  have kX1 : KO w X1 := KO.on k2 hb21
  have hVs := HVS.out
  have hw2s := HB2.out.size
  have hX1s : X1.heap.size = bz + 2 := by rw [← hX1, ← hbz2]; simp
  have bR1 : Boxed X1 w.heap.size 4 (.bool false) := (hb21.block _ (by omega)).trans ((HB2.out.block _ (by omega)).trans HBR.out)
  have rp1 : IsRope X1 b t := HR2.out.below hb21
  have nz1 : X1.cell? ⟨bz, 0, none⟩ = some (.bool false) := by
    rw [← hX1, ← hbz2, World.cell?_alloc_past _ _ _ (by simp), World.cell?_alloc_mark]; rfl
  have cs : ∀ j, X1.cell? ⟨bz + 1, j, none⟩ = (#[Value.pointer none, Value.pointer (some ⟨bz, 0, none⟩)] : Array Value)[j]? := fun j => by
    rw [← hX1, ← hbz2]
    have := World.cell?_alloc_mark (w2.alloc (Obj.cells #[Value.bool false, Value.pointer none] 37)) #[Value.pointer none, Value.pointer (some ⟨w2.heap.size, 0, none⟩)] 24 (0, 0) j
    rw [World.size_alloc] at this
    exact this
  have cA1 : X1.cell? ⟨bz + 1, 0, none⟩ = some (.pointer none) := cs 0
  have cB1 : X1.cell? ⟨bz + 1, 1, none⟩ = some (.pointer (some ⟨bz, 0, none⟩)) := cs 1
  have HBS1 := hide (show w.heap.size < bz ∧ bz + 2 ≤ X1.heap.size from by omega)
  rw [hbz2]
  clear hbz hX1 hb21 hVs hw2s hX1s cs hbz2
  refine wpIn_loop_rounds 3 ?_
  rw [roundsIn_succ]
  have nb1 : Nobody X1 none := .inl rfl
  gi_wp2_with fail
  refine ⟨trivial, ?_⟩
  refine (callsIn_wide.2 (At_nobody none fr X1 nb1)).mono ?_
  rintro e A1 ⟨rfl, hbA⟩
  have kA1 : KO X1 A1 := hbA
  clear hbA
  gi_wp2_with fail
  refine ⟨trivial, ?_⟩
  refine (callsIn_wide.2 (Slice_nobody none fr tu A1 (nb1.below kA1))).mono ?_
  rintro e B1 ⟨rfl, hbB⟩
  have kB1 : KO X1 B1 := KO.on kA1 hbB
  clear hbB
  have nB1 := nb1.below kB1
  have rB1 := rp1.below kB1
  gi_wp2_with fail
  refine ⟨trivial, ?_⟩
  refine (callsIn_wide.2 (Insert_nobody none fr _ B1 nB1)).mono ?_
  rintro e w' ⟨rfl, rfl⟩
  gi_wp2_with fail
  refine ⟨trivial, ?_⟩
  refine (callsIn_wide.2 (Delete_nobody none fr tu B1 nB1)).mono ?_
  rintro e w' ⟨rfl, rfl⟩
  gi_wp2_with fail
  refine ⟨trivial, ?_⟩
  refine (callsIn_wide.2 (Split_nobody none fr B1 nB1)).mono ?_
  rintro e w' ⟨rfl, rfl⟩
  gi_wp2_with fail
  refine ⟨trivial, ?_⟩
  refine (callsIn_wide.2 (Concat_left none _ B1 nB1)).mono ?_
  rintro e w' ⟨rfl, rfl⟩
  gi_wp2_with fail
  refine ⟨trivial, ?_⟩
  refine (callsIn_wide.2 (Concat_right b t none B1 rB1 nB1)).mono ?_
  rintro e w' ⟨rfl, rfl⟩
  gi_wp2_with fail
  refine ⟨trivial, ?_⟩
  refine (callsIn_wide.2 (Para_nobody none fr B1 nB1)).mono ?_
  rintro e w' ⟨rfl, rfl⟩
  gi_wp2_with fail
  refine ⟨trivial, ?_⟩
  refine (callsIn_wide.2 (Len_nobody none B1 nB1)).mono ?_
  rintro e w' ⟨rfl, rfl⟩
  gi_wp2_with fail
  refine ⟨trivial, ?_⟩
  refine (callsIn_wide.2 (Breaks_nobody none B1 nB1)).mono ?_
  rintro e w' ⟨rfl, rfl⟩
  gi_wp2_with fail
  refine ⟨trivial, ?_⟩
  refine (callsIn_wide.2 (Deep_nobody none B1 nB1)).mono ?_
  rintro e w' ⟨rfl, rfl⟩
  gi_wp2_with fail
  refine ⟨trivial, ?_⟩
  refine (callsIn_wide.2 (All_any none B1)).mono ?_
  rintro e w' ⟨rfl, rfl⟩
  gi_wp2_with fail
  refine ⟨trivial, ?_⟩
  refine (callsIn_wide.2 (All_any none _)).mono ?_
  rintro e w' ⟨rfl, rfl⟩
  gi_wp2_with fail
  obtain ⟨Y1, hY1⟩ : ∃ Y1, ((B1.alloc (Obj.cells #[Value.pointer none] 24)).alloc (Obj.cells #[Value.pointer none] 24)) = Y1 := ⟨_, rfl⟩
  rw [hY1]
  have hYs1 : Y1.heap.size = B1.heap.size + 2 := by rw [← hY1]; simp
  have kY1 : KO X1 Y1 := by rw [← hY1]; exact KO.alloc (KO.alloc kB1 _) _
  have bT1 : Boxed Y1 (B1.heap.size + 1) 24 (.pointer none) := by
    rw [← hY1]
    have := Boxed.new (B1.alloc (Obj.cells #[Value.pointer none] 24)) 24 (.pointer none); rw [World.size_alloc] at this; exact this
  have nY1 : Nobody Y1 none := nb1.below kY1
  clear hY1
  apply wpIn_range (ck := false) (gf := 51) (lb := #[.pointer (some ⟨B1.heap.size + 1, 0, none⟩)]) rfl (enters_of Try.func51 (by kernel_rfl) rfl) (all1_nobody false (B1.heap.size + 1) none (fun x : Nat × Int => #[Value.int .i64 (x.1 : Int), Value.int .i32 x.2])) (fun _ => rfl)
    (fun pre X => KO Y1 X) (fun c pre X => False) (fun pre X h => ⟨(show Boxed X (B1.heap.size + 1) 24 (.pointer none) from (Below.block h _ (by omega)).trans bT1).cell, nY1.below h⟩)
    (fun pre X Y h hc => Below.trans h hc.below) (fun c pre X Y h hc => h.elim) (KO.refl _) _ ?assign1 ?body1 ?done1 ?stop1
  case assign1 =>
    intro m y x W K hK
    gi_wp2
    exact hK
  case body1 =>
    rintro m y pre x X hI hpre hXs
    exact absurd hpre.length_le (by simp)
  case stop1 =>
    rintro D c pre W hD hWs hpre hI hK
    exact hI.elim
  case done1 =>
    rintro D1 W1 hD1 hWs1 hI hK1
    have kW1 : KO X1 W1 := KO.on kY1 hI
    have hDG1 : X1.heap.size ≤ D1 := by have := Below.size kB1; omega
    have hon := fun q (hq : q < 8) => ones_at W1 38 q hq
    clear hI
    gi_wp2_with fail
    obtain ⟨X2, hX2⟩ : ∃ X2, W1.alloc (Obj.cells #[Value.int IntKind.i64 1, Value.int IntKind.i64 1, Value.int IntKind.i64 1, Value.int IntKind.i64 1, Value.int IntKind.i64 1, Value.int IntKind.i64 1, Value.int IntKind.i64 1, Value.int IntKind.i64 1] 38) = X2 := ⟨_, rfl⟩
    rw [hX2] at hon
    rw [hX2]
    have kk2 : KO X1 X2 := by rw [← hX2]; exact KO.alloc kW1 _
    have hbsz := HBS1.out
    have kX2 : KO w X2 := KO.on kX1 kk2
    have bR2 : Boxed X2 w.heap.size 4 (.bool false) := (Below.block kk2 _ (by omega)).trans bR1
    have rp2 : IsRope X2 b t := rp1.below kk2
    have nz2 : X2.cell? ⟨bz, 0, none⟩ = some (.bool false) := (Below.cell kk2 (by show bz < _; omega)).trans nz1
    have cB2 : X2.cell? ⟨bz + 1, 1, none⟩ = some (.pointer (some ⟨bz, 0, none⟩)) := (Below.cell kk2 (by show bz + 1 < _; omega)).trans cB1
    have HBS2 := hide (show w.heap.size < bz ∧ bz + 2 ≤ X2.heap.size from ⟨hbsz.1, Nat.le_trans hbsz.2 (Below.size kk2)⟩)
    have hKK1 : X2.heap[D1]? = some (.deferred (some [])) := by rw [← hX2]; exact (Below.heap_alloc _ _ _ (Array.getElem?_eq_some_iff.1 hK1).1).trans hK1
    have HDG1 := hide hDG1
    have HDL1 := hide (show D1 < X2.heap.size from (Array.getElem?_eq_some_iff.1 hKK1).1)
    have HON := hide hon
    clear hX2 hK1 hbsz hDG1 hon nY1 kY1 kB1 kA1 kW1 hD1 hWs1 bT1 hYs1 nb1 nB1 rB1 cA1
    gi_loop [172] (fun v => ∃ q : Nat, v = .int .i64 (q : Int) ∧ q ≤ 8) (fun v => 8 - (intOf v).toNat)
    case atStart => exact ⟨0, rfl, by omega⟩
    case round =>
      obtain ⟨q, rfl, hq8⟩ := hrel
      by_cases hq : q < 8
      · have cq := HON.out q hq
        have e1 : (q : Int) < 8 := by omega
        gi_wp2_with fail
        go_round
        case rel => exact ⟨q + 1, by go_num, by omega⟩
        case measure => simp [intOf]; omega
      · obtain rfl : q = 8 := by omega
        gi_wp2_with fail
        rw [roundsIn_succ]
        have nb2 : Nobody X2 (some ⟨bz, 0, none⟩) := .inr ⟨bz, rfl, nz2⟩
        gi_wp2_with fail
        refine ⟨trivial, ?_⟩
        refine (callsIn_wide.2 (At_nobody (some ⟨bz, 0, none⟩) fr X2 nb2)).mono ?_
        rintro e A2 ⟨rfl, hbA⟩
        have kA2 : KO X2 A2 := hbA
        clear hbA
        gi_wp2_with fail
        refine ⟨trivial, ?_⟩
        refine (callsIn_wide.2 (Slice_nobody (some ⟨bz, 0, none⟩) fr tu A2 (nb2.below kA2))).mono ?_
        rintro e B2 ⟨rfl, hbB⟩
        have kB2 : KO X2 B2 := KO.on kA2 hbB
        clear hbB
        have nB2 := nb2.below kB2
        have rB2 := rp2.below kB2
        gi_wp2_with fail
        refine ⟨trivial, ?_⟩
        refine (callsIn_wide.2 (Insert_nobody (some ⟨bz, 0, none⟩) fr _ B2 nB2)).mono ?_
        rintro e w' ⟨rfl, rfl⟩
        gi_wp2_with fail
        refine ⟨trivial, ?_⟩
        refine (callsIn_wide.2 (Delete_nobody (some ⟨bz, 0, none⟩) fr tu B2 nB2)).mono ?_
        rintro e w' ⟨rfl, rfl⟩
        gi_wp2_with fail
        refine ⟨trivial, ?_⟩
        refine (callsIn_wide.2 (Split_nobody (some ⟨bz, 0, none⟩) fr B2 nB2)).mono ?_
        rintro e w' ⟨rfl, rfl⟩
        gi_wp2_with fail
        refine ⟨trivial, ?_⟩
        refine (callsIn_wide.2 (Concat_left (some ⟨bz, 0, none⟩) _ B2 nB2)).mono ?_
        rintro e w' ⟨rfl, rfl⟩
        gi_wp2_with fail
        refine ⟨trivial, ?_⟩
        refine (callsIn_wide.2 (Concat_right b t (some ⟨bz, 0, none⟩) B2 rB2 nB2)).mono ?_
        rintro e w' ⟨rfl, rfl⟩
        gi_wp2_with fail
        refine ⟨trivial, ?_⟩
        refine (callsIn_wide.2 (Para_nobody (some ⟨bz, 0, none⟩) fr B2 nB2)).mono ?_
        rintro e w' ⟨rfl, rfl⟩
        gi_wp2_with fail
        refine ⟨trivial, ?_⟩
        refine (callsIn_wide.2 (Len_nobody (some ⟨bz, 0, none⟩) B2 nB2)).mono ?_
        rintro e w' ⟨rfl, rfl⟩
        gi_wp2_with fail
        refine ⟨trivial, ?_⟩
        refine (callsIn_wide.2 (Breaks_nobody (some ⟨bz, 0, none⟩) B2 nB2)).mono ?_
        rintro e w' ⟨rfl, rfl⟩
        gi_wp2_with fail
        refine ⟨trivial, ?_⟩
        refine (callsIn_wide.2 (Deep_nobody (some ⟨bz, 0, none⟩) B2 nB2)).mono ?_
        rintro e w' ⟨rfl, rfl⟩
        gi_wp2_with fail
        refine ⟨trivial, ?_⟩
        refine (callsIn_wide.2 (All_any (some ⟨bz, 0, none⟩) B2)).mono ?_
        rintro e w' ⟨rfl, rfl⟩
        gi_wp2_with fail
        refine ⟨trivial, ?_⟩
        refine (callsIn_wide.2 (All_any (some ⟨bz, 0, none⟩) _)).mono ?_
        rintro e w' ⟨rfl, rfl⟩
        gi_wp2_with fail
        obtain ⟨Y2, hY2⟩ : ∃ Y2, ((B2.alloc (Obj.cells #[Value.pointer (some ⟨bz, 0, none⟩)] 24)).alloc (Obj.cells #[Value.pointer (some ⟨bz, 0, none⟩)] 24)) = Y2 := ⟨_, rfl⟩
        rw [hY2]
        have hYs2 : Y2.heap.size = B2.heap.size + 2 := by rw [← hY2]; simp
        have kY2 : KO X2 Y2 := by rw [← hY2]; exact KO.alloc (KO.alloc kB2 _) _
        have bT2 : Boxed Y2 (B2.heap.size + 1) 24 (.pointer (some ⟨bz, 0, none⟩)) := by
          rw [← hY2]
          have := Boxed.new (B2.alloc (Obj.cells #[Value.pointer (some ⟨bz, 0, none⟩)] 24)) 24 (.pointer (some ⟨bz, 0, none⟩)); rw [World.size_alloc] at this; exact this
        have nY2 : Nobody Y2 (some ⟨bz, 0, none⟩) := nb2.below kY2
        clear hY2
        apply wpIn_range (ck := false) (gf := 51) (lb := #[.pointer (some ⟨B2.heap.size + 1, 0, none⟩)]) rfl (enters_of Try.func51 (by kernel_rfl) rfl) (all1_nobody false (B2.heap.size + 1) (some ⟨bz, 0, none⟩) (fun x : Nat × Int => #[Value.int .i64 (x.1 : Int), Value.int .i32 x.2])) (fun _ => rfl)
          (fun pre X => KO Y2 X) (fun c pre X => False) (fun pre X h => ⟨(show Boxed X (B2.heap.size + 1) 24 (.pointer (some ⟨bz, 0, none⟩)) from (Below.block h _ (by omega)).trans bT2).cell, nY2.below h⟩)
          (fun pre X Y h hc => Below.trans h hc.below) (fun c pre X Y h hc => h.elim) (KO.refl _) _ ?assign2 ?body2 ?done2 ?stop2
        case assign2 =>
          intro m y x W K hK
          gi_wp2
          exact hK
        case body2 =>
          rintro m y pre x X hI hpre hXs
          exact absurd hpre.length_le (by simp)
        case stop2 =>
          rintro D c pre W hD hWs hpre hI hK
          exact hI.elim
        case done2 =>
          rintro D2 W2 hD2 hWs2 hI hK2
          have kW2 : KO X2 W2 := KO.on kY2 hI
          have hDG2 : X2.heap.size ≤ D2 := by have := Below.size kB2; omega
          have hon := fun q (hq : q < 8) => ones_at W2 38 q hq
          clear hI
          gi_wp2_with fail
          obtain ⟨X3, hX3⟩ : ∃ X3, W2.alloc (Obj.cells #[Value.int IntKind.i64 1, Value.int IntKind.i64 1, Value.int IntKind.i64 1, Value.int IntKind.i64 1, Value.int IntKind.i64 1, Value.int IntKind.i64 1, Value.int IntKind.i64 1, Value.int IntKind.i64 1] 38) = X3 := ⟨_, rfl⟩
          rw [hX3] at hon
          rw [hX3]
          have kk3 : KO X2 X3 := by rw [← hX3]; exact KO.alloc kW2 _
          have hbsz := HBS2.out
          have kX3 : KO w X3 := KO.on kX2 kk3
          have bR3 : Boxed X3 w.heap.size 4 (.bool false) := (Below.block kk3 _ (by omega)).trans bR2
          have rp3 : IsRope X3 b t := rp2.below kk3
          have nz3 : X3.cell? ⟨bz, 0, none⟩ = some (.bool false) := (Below.cell kk3 (by show bz < _; omega)).trans nz2
          have cB3 : X3.cell? ⟨bz + 1, 1, none⟩ = some (.pointer (some ⟨bz, 0, none⟩)) := (Below.cell kk3 (by show bz + 1 < _; omega)).trans cB2
          have HBS3 := hide (show w.heap.size < bz ∧ bz + 2 ≤ X3.heap.size from ⟨hbsz.1, Nat.le_trans hbsz.2 (Below.size kk3)⟩)
          have hKK2 : X3.heap[D2]? = some (.deferred (some [])) := by rw [← hX3]; exact (Below.heap_alloc _ _ _ (Array.getElem?_eq_some_iff.1 hK2).1).trans hK2
          have HDG2 := hide hDG2
          have HDL2 := hide (show D2 < X3.heap.size from (Array.getElem?_eq_some_iff.1 hKK2).1)
          have hKK1' := (Below.block kk3 D1 HDL1.out).trans hKK1
          clear hKK1
          have hKK1 := hKK1'
          clear hKK1'
          have HON := hide hon
          clear hX3 hK2 hbsz hDG2 hon nY2 kY2 kB2 kA2 kW2 hD2 hWs2 bT2 hYs2 nb2 nB2 rB2
          gi_loop [172] (fun v => ∃ q : Nat, v = .int .i64 (q : Int) ∧ q ≤ 8) (fun v => 8 - (intOf v).toNat)
          case atStart => exact ⟨0, rfl, by omega⟩
          case round =>
            obtain ⟨q, rfl, hq8⟩ := hrel
            by_cases hq : q < 8
            · have cq := HON.out q hq
              have e1 : (q : Int) < 8 := by omega
              gi_wp2_with fail
              go_round
              case rel => exact ⟨q + 1, by go_num, by omega⟩
              case measure => simp [intOf]; omega
            · obtain rfl : q = 8 := by omega
              gi_wp2_with fail
              rw [roundsIn_succ]
              have HLEN := hide (Len_rope b t X3 rp3)
              rw [show t.size = n0 from by unfold Tr.size; rw [HLI.out]; exact HLL.out] at HLEN
              have cR := bR3.cell
              have fR := bR3.frozen
              gi_wp2_with fail
              refine ⟨trivial, ?_⟩
              refine (callsIn_wide.2 HLEN.out).mono ?_
              rintro e w' ⟨rfl, rfl⟩
              gi_wp2_with fail
              have hb3 := HBS1.out
              have q1 : w.heap.size + 1 ≤ D1 := by have := HDG1.out; omega
              have q3 : D1 < D2 := by have := HDL1.out; have := HDG2.out; omega
              obtain ⟨Z, hZ⟩ : ∃ Z, X3.setCell ⟨w.heap.size, 0, none⟩ (.bool true) = Z := ⟨_, rfl⟩
              rw [hZ]
              have zR : Boxed Z w.heap.size 4 (.bool true) := by rw [← hZ]; exact bR3.set _
              have z1 : Z.heap[D1]? = some (.deferred (some [])) := by rw [← hZ, Below.heap_setCell _ _ _ _ (by show D1 ≠ w.heap.size; omega)]; exact hKK1
              have z2 : Z.heap[D2]? = some (.deferred (some [])) := by rw [← hZ, Below.heap_setCell _ _ _ _ (by show D2 ≠ w.heap.size; omega)]; exact hKK2
              have zk : KO w Z := by rw [← hZ]; exact Below.setCell kX3 (by exact Nat.le_refl _) _
              refine ⟨by simp, .inl ⟨_, _, rfl, run_takeDeferred z2, ?_⟩⟩
              refine ⟨by simp, .inl ⟨_, _, rfl, run_takeDeferred (World.putObj_heap_other (by omega) |>.trans z1), ?_⟩⟩
              have yR : Boxed ((Z.putObj D2 (.deferred none)).putObj D1 (.deferred none)) w.heap.size 4 (.bool true) := (World.putObj_heap_other (by omega)).trans ((World.putObj_heap_other (by omega)).trans zR)
              exact ⟨_, nobody_results _ _ _ yR _ (by rfl), rfl, (Below.trans zk (below_put (by omega) _)).trans (below_put (by omega) _)⟩
end Go.Proofs.Yteiljaecaahonaa
