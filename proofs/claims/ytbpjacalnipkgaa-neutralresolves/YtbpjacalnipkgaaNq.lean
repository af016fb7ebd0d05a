/- nearest, behind whatever way. -/
import Derived.Test.YtbpjacalnipkgaaNn
namespace Go.Proofs.Ytbpjacalnipkgaa
open Go.RowKit Go.Shelf
set_option linter.unusedVariables false
set_option maxHeartbeats 1000000
set_option maxRecDepth 100000
attribute [local go_sem] Oper.semAt_some
theorem made_ints (n : Nat) (hn : n * 8 ≤ 140737488351232) : ∃ cur : Array Value, cur.toList = (List.replicate n (0 : Int)).map (Value.int .i64) ∧ ∀ W : World, (Instr.makeSlice 22 (.int .i64 (n : Int)) (.int .i64 (n : Int))).run Try.prog W = .ok (.slice (some ⟨W.heap.size, 0, none⟩) n n) (W.alloc (.cells cur 3)) := by
  obtain ⟨ii, hii, hy0, hy1, hy2⟩ := info_parts infoInt
  refine ⟨madeCells #[.int .i64 0] n, by simp [toList_madeCells_one], fun W => ?_⟩
  have h := run_make (P := Try.prog) W 22 3 ii _ Try.underlying22 hii hy0 .i64 .i64 (n : Int) (n : Int) (by omega) (Int.le_refl _) (by rw [hy2]; omega) (by omega)
  rw [h, hy1]
  simp [Value.cells]
theorem owns_at {w w' : World} {base e size n cap g : Nat} {xs : List Value} (h : w.ownsRow base e size (.slice (some ⟨g, 0, none⟩) n cap) n xs) (hb : w'.heap[g]? = w.heap[g]?) : w'.ownsRow base e size (.slice (some ⟨g, 0, none⟩) n cap) n xs := by
  refine ⟨h.1, ?_⟩
  rcases h.2 with ⟨h0, _⟩ | ⟨g', cap', cur, hv, hbs, hh, rest⟩
  · cases h0
  · cases hv
    exact .inr ⟨g, cap, cur, rfl, hbs, hb.trans hh, rest⟩
theorem owns_ch {B : Nat} {X Y : World} {base e size n : Nat} {v : Value} {xs : List Value} (h : X.ownsRow base e size v n xs) (hc : Ch true B X Y) : Y.ownsRow base e size v n xs := by
  refine ⟨h.1, ?_⟩
  rcases h.2 with hn | ⟨g, cap, cur, rfl, hbs, hg, rest⟩
  · exact .inl hn
  · exact .inr ⟨g, cap, cur, rfl, hbs, hc.cells rfl _ _ hg rfl, rest⟩
/-- What nearest keeps on its way. -/
structure NW (w : World) (n mp : Nat) (a : Int × List Int) (X : World) : Prop where
  own : X.ownsRow w.heap.size 3 1 (.slice (some ⟨w.heap.size + 1, 0, none⟩) n n) n (a.2.map (Value.int .i64))
  bs : Boxed X w.heap.size 40 (.map (some mp))
  bm : Boxed X (w.heap.size + 2) 22 (.slice (some ⟨w.heap.size + 1, 0, none⟩) n n)
  bl : Boxed X (w.heap.size + 3) 3 (.int .i64 a.1)
  bel : Below w.heap.size w X
theorem NW.ch {w : World} {n mp : Nat} {a : Int × List Int} {X Y : World} {B : Nat} (h : NW w n mp a X) (hc : Ch true B X Y) (hB : w.heap.size ≤ B) : NW w n mp a Y :=
  ⟨owns_ch h.own hc, hc.cells rfl _ _ h.bs rfl, hc.cells rfl _ _ h.bm rfl, hc.cells rfl _ _ h.bl rfl, h.bel.trans (hc.below.mono hB)⟩
theorem set_keeps (X : World) (b i : Nat) (v : Value) (k : Nat) (h : k ≠ b) : (X.setCell ⟨b, i, none⟩ v).heap[k]? = X.heap[k]? := Below.heap_setCell X _ _ _ h
theorem NW.last {w : World} {n mp : Nat} {a : Int × List Int} {X : World} (h : NW w n mp a X) (y : Int) : NW w n mp (y, a.2) (X.setCell ⟨w.heap.size + 3, 0, none⟩ (.int .i64 y)) :=
  ⟨owns_at h.own (set_keeps X _ _ _ _ (by omega)), (set_keeps X _ _ _ _ (by omega)).trans h.bs, (set_keeps X _ _ _ _ (by omega)).trans h.bm, h.bl.set _, h.bel.setCell (p := ⟨w.heap.size + 3, 0, none⟩) (Nat.le_add_right _ _) _⟩
theorem NW.met {w : World} {n mp : Nat} {a : Int × List Int} {X : World} (h : NW w n mp a X) (i : Nat) (y : Int) : NW w n mp (a.1, a.2.set i y) (X.setCell ⟨w.heap.size + 1, i, none⟩ (.int .i64 y)) :=
  ⟨owns_set h.own i y, (set_keeps X _ _ _ _ (by omega)).trans h.bs, (set_keeps X _ _ _ _ (by omega)).trans h.bm, (set_keeps X _ _ _ _ (by omega)).trans h.bl, h.bel.setCell (p := ⟨w.heap.size + 1, i, none⟩) (Nat.le_add_right _ _) _⟩
theorem NW.cell {w : World} {n mp : Nat} {a : Int × List Int} {X : World} (h : NW w n mp a X) {i : Nat} (hi : i < n) : X.cell? ⟨w.heap.size + 1, i, none⟩ = some (.int .i64 (a.2.getD i 0)) := owns_cell h.own i hi
/-- Where it begins. -/
theorem NW.start (w : World) (n mp : Nat) (s : Int) (cur : Array Value) (hc : cur.toList = (List.replicate n (0 : Int)).map (Value.int .i64)) (hn : n ≤ maxLen) :
    NW w n mp (s, List.replicate n 0) ((((w.alloc (.cells #[.map (some mp)] 40)).alloc (.cells cur 3)).alloc (.cells #[.slice (some ⟨w.heap.size + 1, 0, none⟩) n n] 22)).alloc (.cells #[.int .i64 s] 3)) := by
  obtain ⟨W1, h1⟩ : ∃ W1, w.alloc (.cells #[.map (some mp)] 40) = W1 := ⟨_, rfl⟩
  obtain ⟨W2, h2⟩ : ∃ W2, W1.alloc (.cells cur 3) = W2 := ⟨_, rfl⟩
  obtain ⟨W3, h3⟩ : ∃ W3, W2.alloc (.cells #[.slice (some ⟨w.heap.size + 1, 0, none⟩) n n] 22) = W3 := ⟨_, rfl⟩
  obtain ⟨W4, h4⟩ : ∃ W4, W3.alloc (.cells #[.int .i64 s] 3) = W4 := ⟨_, rfl⟩
  have s1 : W1.heap.size = w.heap.size + 1 := by rw [← h1]; simp
  have s2 : W2.heap.size = w.heap.size + 2 := by rw [← h2]; simp; omega
  have s3 : W3.heap.size = w.heap.size + 3 := by rw [← h3]; simp; omega
  have k1 : Below w.heap.size w W1 := by rw [← h1]; exact (Below.refl _ _).alloc (Nat.le_refl _) _
  have k2 : Below W1.heap.size W1 W2 := by rw [← h2]; exact (Below.refl _ _).alloc (Nat.le_refl _) _
  have k3 : Below W2.heap.size W2 W3 := by rw [← h3]; exact (Below.refl _ _).alloc (Nat.le_refl _) _
  have k4 : Below W3.heap.size W3 W4 := by rw [← h4]; exact (Below.refl _ _).alloc (Nat.le_refl _) _
  have b1 : W1.heap[w.heap.size]? = some (.cells #[.map (some mp)] 40 (0, 0)) := by rw [← h1]; exact World.alloc_heap_new w _
  have b2 : W2.heap[w.heap.size + 1]? = some (.cells cur 3 (0, 0)) := by rw [← h2, ← s1]; exact World.alloc_heap_new W1 _
  have b3 : W3.heap[w.heap.size + 2]? = some (.cells #[.slice (some ⟨w.heap.size + 1, 0, none⟩) n n] 22 (0, 0)) := by rw [← h3, ← s2]; exact World.alloc_heap_new W2 _
  have b4 : W4.heap[w.heap.size + 3]? = some (.cells #[.int .i64 s] 3 (0, 0)) := by rw [← h4, ← s3]; exact World.alloc_heap_new W3 _
  rw [h1, h2, h3, h4]
  refine ⟨?_, ?_, ?_, b4, ?_⟩
  · refine owns_block (cur := cur) ?_ hc (by simp) hn (by omega)
    exact (k4.block _ (by omega)).trans ((k3.block _ (by omega)).trans b2)
  · exact (k4.block _ (by omega)).trans ((k3.block _ (by omega)).trans ((k2.block _ (by omega)).trans b1))
  · exact (k4.block _ (by omega)).trans b3
  · exact k1.trans ((k2.mono (by omega)).trans ((k3.mono (by omega)).trans (k4.mono (by omega))))
theorem nearest_any (gf : Nat) (lb : Array Value) (eg : ∀ args w, (callFunc gf args).run Try.prog w = .ok (.enter gf args) w) (xs : List (Nat × Int)) (Ok : World → Prop) (hseq : Seq true Try.prog gf lb enc2 xs Ok)
    (n mp : Nat) (s : Int) (w : World) (hOk : ∀ X, KO w X → Ok X) (hn : n * 8 ≤ 140737488351232) (hx : ∀ x ∈ xs, x.1 < n ∧ (Lit.int .i64 x.2).wf = true) (hm : SM w mp) :
    Calls Try.prog 21 #[.func (.func gf) #[] lb, .int .i64 (n : Int), .map (some mp), .int .i64 s] w fun e w' =>
      ∃ g, e = .returned (.slice (some ⟨g, 0, none⟩) n n) ∧ Row .i64 w' (some ⟨g, 0, none⟩) n n (Ne.nr s n xs).2 ∧ KO w w' := by
  obtain ⟨cur, hcl, hmk⟩ := made_ints n hn
  have HCL := hide hcl
  have HX := hide hx
  have HM := hide hm
  have HN := hide hn
  clear hcl hx hm hn
  refine (callsIn_wide (n := 3)).1 ?_
  refine callsIn_of_wp_marks Try.func21 rfl trivial ?_
  simp only [Try.ntmps21, List.size_toArray, List.length_cons, List.length_nil, Nat.reduceAdd, Nat.reduceSub, Array.replicate_succ, Array.replicate_zero, List.push_toArray, List.append_toArray, List.nil_append, List.cons_append]
  gi_wp2_with fail
  obtain ⟨W0, hW0⟩ : ∃ W0, ((((w.alloc (Obj.cells #[Value.map (some mp)] 40)).alloc (Obj.cells cur 3)).alloc (Obj.cells #[Value.slice (some ⟨w.heap.size + 1, 0, none⟩) n n] 22)).alloc (Obj.cells #[Value.int IntKind.i64 s] 3)) = W0 := ⟨_, rfl⟩
  have h0 := NW.start w n mp s cur HCL.out (by unfold maxLen; have := HN.out; omega)
  have hsz : W0.heap.size = w.heap.size + 4 := by rw [← hW0]; simp
  rw [hW0] at h0 ⊢
  clear hW0
  apply wpIn_range (ck := true) (gf := gf) (lb := lb) rfl eg hseq (fun _ => rfl)
    (fun pre X => NW w n mp (Ne.nr s n pre) X) (fun _ _ _ => False) (fun pre X h => hOk X h.bel) (fun pre X Y h hc => h.ch hc (by omega)) (fun _ _ _ _ h _ => h) h0 _ ?assign ?body ?done ?stop
  case assign =>
    intro m l x W K hK
    unfold enc2
    gi_wp2
    exact hK
  case body =>
    rintro m l pre x X hT hpre hXs
    have hmem : x ∈ xs := by
      have := List.mem_of_getElem? (prefix_at hpre).1
      exact this
    have hx1 := (HX.out x hmem).1
    have hlk := (HM.out.below hT.bel).look x.2 (HX.out x hmem).2
    obtain ⟨i, z⟩ := x
    dsimp only at hx1 hlk
    have hin : (i : Int) < (n : Int) := by omega
    have HSN := hide (Ne.nr_snoc s n pre (i, z))
    unfold Ne.stp at HSN
    dsimp only at HSN
    generalize Ne.nr s n pre = a at *
    have cs := hT.bs.cell
    have cm := hT.bm.cell
    have cl := hT.bl.cell
    have fl := hT.bl.frozen
    have cx := hT.cell hx1
    have fx := hT.own.frozenAt i
    have HT := hide hT
    have HSZ := hide hsz
    have HI := hide hx1
    clear hmem hpre hXs hx1 hT hsz h0 hOk hseq eg hmk
    generalize hQ : rPost _ _ _ _ X = Q
    have HQ := hide hQ
    clear hQ
    by_cases hs : Ne.sd z = 0
    · rw [if_pos hs] at HSN
      rw [hs] at hlk
      gi_wp2
      rw [← HQ.out]
      refine ⟨Beyond.setCell X (p := ⟨w.heap.size + 1, i, none⟩) (by show w.heap.size + 1 < _; have := HSZ.out; omega) _, ?_⟩
      show NW w n mp (Ne.nr s n (pre ++ [(i, z)])) _
      rw [HSN.out]
      exact HT.out.met i a.1
    · rw [if_neg hs] at HSN
      have hb : (Ne.sd z != 0) = true := bne_iff_ne.2 hs
      clear hs
      rw [hb] at hlk
      clear hb
      generalize Ne.sd z = y at *
      have HT2 := hide (HT.out.last y)
      have cm2 := HT2.out.bm.cell
      have cl2 := HT2.out.bl.cell
      have cx2 := HT2.out.cell HI.out
      have fx2 := HT2.out.own.frozenAt i
      obtain ⟨X2, hX2⟩ : ∃ X2, X.setCell ⟨w.heap.size + 3, 0, none⟩ (.int .i64 y) = X2 := ⟨_, rfl⟩
      rw [hX2] at HT2 cm2 cl2 cx2 fx2
      gi_wp2
      rw [← HQ.out]
      refine ⟨(Beyond.setCell X (p := ⟨w.heap.size + 3, 0, none⟩) (by show w.heap.size + 3 < _; have := HSZ.out; omega) (.int .i64 y)).trans (by rw [hX2]; exact Beyond.setCell X2 (p := ⟨w.heap.size + 1, i, none⟩) (by show w.heap.size + 1 < _; have := HSZ.out; omega) _), ?_⟩
      show NW w n mp (Ne.nr s n (pre ++ [(i, z)])) _
      rw [HSN.out]
      exact HT2.out.met i y
  case done =>
    rintro D W hD hWs hM hK
    have cm := hM.bm.cell
    have HM2 := hide hM
    have HD := hide hD
    have HSZ := hide hsz
    clear hM hD hWs h0 hsz hOk hseq eg hmk
    gi_wp2
    refine ⟨by simp, .inl ⟨_, _, rfl, run_takeDeferred hK, ?_⟩⟩
    have hc : Ch true w.heap.size W (W.putObj D (.deferred none)) := Ch.put (by have := HD.out; have := HSZ.out; omega) hK rfl _
    have hM := HM2.out.ch hc (Nat.le_refl _)
    exact ⟨_, results_tmp rfl _ _ _, w.heap.size + 1, rfl, row_owned hM.own, hM.bel⟩
  case stop =>
    rintro D c pre W _ _ _ h _
    exact h.elim
end Go.Proofs.Ytbpjacalnipkgaa
