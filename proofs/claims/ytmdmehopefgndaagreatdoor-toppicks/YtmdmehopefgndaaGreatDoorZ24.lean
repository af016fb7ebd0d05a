import Derived.Test.YtmdmehopefgndaaGreatDoorZ23
/- nearest, behind whatever way. -/
namespace Go.Proofs.YtmdmehopefgndaaGreatDoor
open Go.RowKit Go.Shelf
set_option linter.unusedVariables false
set_option maxHeartbeats 1000000
set_option maxRecDepth 100000
attribute [local go_sem] Oper.semAt_some
theorem nmade_ints (n : Nat) (hn : n * 8 ≤ 140737488351232) : ∃ cur : Array Value, cur.toList = (List.replicate n (0 : Int)).map (Value.int .i64) ∧ ∀ W : World, (Instr.makeSlice 27 (.int .i64 (n : Int)) (.int .i64 (n : Int))).run Tryz.prog W = .ok (.slice (some ⟨W.heap.size, 0, none⟩) n n) (W.alloc (.cells cur 3)) := by
  obtain ⟨ii, hii, hy0, hy1, hy2⟩ := info_parts infoInt
  refine ⟨madeCells #[.int .i64 0] n, by simp [toList_madeCells_one], fun W => ?_⟩
  have h := run_make (P := Tryz.prog) W 27 3 ii _ Tryz.underlying27 hii hy0 .i64 .i64 (n : Int) (n : Int) (by omega) (Int.le_refl _) (by rw [hy2]; omega) (by omega)
  rw [h, hy1]
  simp [Value.cells]
theorem owns_at {w w' : World} {base e size n cap g : Nat} {xs : List Value} (h : w.ownsRow base e size (.slice (some ⟨g, 0, none⟩) n cap) n xs) (hb : w'.heap[g]? = w.heap[g]?) : w'.ownsRow base e size (.slice (some ⟨g, 0, none⟩) n cap) n xs := by
  refine ⟨h.1, ?_⟩
  rcases h.2 with ⟨h0, _⟩ | ⟨g', cap', cur, hv, hbs, hh, rest⟩
  · cases h0
  · cases hv
    exact .inr ⟨g, cap, cur, rfl, hbs, hb.trans hh, rest⟩
theorem nowns_ch {B : Nat} {X Y : World} {base e size n : Nat} {v : Value} {xs : List Value} (h : X.ownsRow base e size v n xs) (hc : Ch true B X Y) : Y.ownsRow base e size v n xs := by
  refine ⟨h.1, ?_⟩
  rcases h.2 with hn | ⟨g, cap, cur, rfl, hbs, hg, rest⟩
  · exact .inl hn
  · exact .inr ⟨g, cap, cur, rfl, hbs, hc.cells rfl _ _ hg rfl, rest⟩
/-- What nearest keeps on its way. -/
structure NW (w : World) (n mp : Nat) (a : Int × List Int) (X : World) : Prop where
  own : X.ownsRow w.heap.size 3 1 (.slice (some ⟨w.heap.size + 1, 0, none⟩) n n) n (a.2.map (Value.int .i64))
  bs : Boxed X w.heap.size 115 (.map (some mp))
  bm : Boxed X (w.heap.size + 2) 27 (.slice (some ⟨w.heap.size + 1, 0, none⟩) n n)
  bl : Boxed X (w.heap.size + 3) 3 (.int .i64 a.1)
  bel : Below w.heap.size w X
theorem NW.ch {w : World} {n mp : Nat} {a : Int × List Int} {X Y : World} {B : Nat} (h : NW w n mp a X) (hc : Ch true B X Y) (hB : w.heap.size ≤ B) : NW w n mp a Y :=
  ⟨nowns_ch h.own hc, hc.cells rfl _ _ h.bs rfl, hc.cells rfl _ _ h.bm rfl, hc.cells rfl _ _ h.bl rfl, h.bel.trans (hc.below.mono hB)⟩
theorem set_keeps (X : World) (b i : Nat) (v : Value) (k : Nat) (h : k ≠ b) : (X.setCell ⟨b, i, none⟩ v).heap[k]? = X.heap[k]? := Below.heap_setCell X _ _ _ h
theorem NW.last {w : World} {n mp : Nat} {a : Int × List Int} {X : World} (h : NW w n mp a X) (y : Int) : NW w n mp (y, a.2) (X.setCell ⟨w.heap.size + 3, 0, none⟩ (.int .i64 y)) :=
  ⟨owns_at h.own (set_keeps X _ _ _ _ (by omega)), (set_keeps X _ _ _ _ (by omega)).trans h.bs, (set_keeps X _ _ _ _ (by omega)).trans h.bm, h.bl.set _, h.bel.setCell (p := ⟨w.heap.size + 3, 0, none⟩) (Nat.le_add_right _ _) _⟩
theorem NW.met {w : World} {n mp : Nat} {a : Int × List Int} {X : World} (h : NW w n mp a X) (i : Nat) (y : Int) : NW w n mp (a.1, a.2.set i y) (X.setCell ⟨w.heap.size + 1, i, none⟩ (.int .i64 y)) :=
  ⟨owns_set h.own i y, (set_keeps X _ _ _ _ (by omega)).trans h.bs, (set_keeps X _ _ _ _ (by omega)).trans h.bm, (set_keeps X _ _ _ _ (by omega)).trans h.bl, h.bel.setCell (p := ⟨w.heap.size + 1, i, none⟩) (Nat.le_add_right _ _) _⟩
theorem NW.cell {w : World} {n mp : Nat} {a : Int × List Int} {X : World} (h : NW w n mp a X) {i : Nat} (hi : i < n) : X.cell? ⟨w.heap.size + 1, i, none⟩ = some (.int .i64 (a.2.getD i 0)) := owns_cell h.own i hi
/-- Where it begins. -/
theorem NW.start (w : World) (n mp : Nat) (s : Int) (cur : Array Value) (hc : cur.toList = (List.replicate n (0 : Int)).map (Value.int .i64)) (hn : n ≤ maxLen) :
    NW w n mp (s, List.replicate n 0) ((((w.alloc (.cells #[.map (some mp)] 115)).alloc (.cells cur 3)).alloc (.cells #[.slice (some ⟨w.heap.size + 1, 0, none⟩) n n] 27)).alloc (.cells #[.int .i64 s] 3)) := by
  obtain ⟨W1, h1⟩ : ∃ W1, w.alloc (.cells #[.map (some mp)] 115) = W1 := ⟨_, rfl⟩
  obtain ⟨W2, h2⟩ : ∃ W2, W1.alloc (.cells cur 3) = W2 := ⟨_, rfl⟩
  obtain ⟨W3, h3⟩ : ∃ W3, W2.alloc (.cells #[.slice (some ⟨w.heap.size + 1, 0, none⟩) n n] 27) = W3 := ⟨_, rfl⟩
  obtain ⟨W4, h4⟩ : ∃ W4, W3.alloc (.cells #[.int .i64 s] 3) = W4 := ⟨_, rfl⟩
  have s1 : W1.heap.size = w.heap.size + 1 := by rw [← h1]; simp
  have s2 : W2.heap.size = w.heap.size + 2 := by rw [← h2]; simp; omega
  have s3 : W3.heap.size = w.heap.size + 3 := by rw [← h3]; simp; omega
  have k1 : Below w.heap.size w W1 := by rw [← h1]; exact (Below.refl _ _).alloc (Nat.le_refl _) _
  have k2 : Below W1.heap.size W1 W2 := by rw [← h2]; exact (Below.refl _ _).alloc (Nat.le_refl _) _
  have k3 : Below W2.heap.size W2 W3 := by rw [← h3]; exact (Below.refl _ _).alloc (Nat.le_refl _) _
  have k4 : Below W3.heap.size W3 W4 := by rw [← h4]; exact (Below.refl _ _).alloc (Nat.le_refl _) _
  have b1 : W1.heap[w.heap.size]? = some (.cells #[.map (some mp)] 115 (0, 0)) := by rw [← h1]; exact World.alloc_heap_new w _
  have b2 : W2.heap[w.heap.size + 1]? = some (.cells cur 3 (0, 0)) := by rw [← h2, ← s1]; exact World.alloc_heap_new W1 _
  have b3 : W3.heap[w.heap.size + 2]? = some (.cells #[.slice (some ⟨w.heap.size + 1, 0, none⟩) n n] 27 (0, 0)) := by rw [← h3, ← s2]; exact World.alloc_heap_new W2 _
  have b4 : W4.heap[w.heap.size + 3]? = some (.cells #[.int .i64 s] 3 (0, 0)) := by rw [← h4, ← s3]; exact World.alloc_heap_new W3 _
  rw [h1, h2, h3, h4]
  refine ⟨?_, ?_, ?_, b4, ?_⟩
  · refine owns_block (cur := cur) ?_ hc (by simp) hn (by omega)
    exact (k4.block _ (by omega)).trans ((k3.block _ (by omega)).trans b2)
  · exact (k4.block _ (by omega)).trans ((k3.block _ (by omega)).trans ((k2.block _ (by omega)).trans b1))
  · exact (k4.block _ (by omega)).trans b3
  · exact k1.trans ((k2.mono (by omega)).trans ((k3.mono (by omega)).trans (k4.mono (by omega))))
theorem nearest_any (gf : Nat) (lb : Array Value) (eg : ∀ args w, (callFunc gf args).run Tryz.prog w = .ok (.enter gf args) w) (xs : List (Nat × Int)) (Ok : World → Prop) (hseq : Seq true Tryz.prog gf lb enc2 xs Ok)
    (n mp : Nat) (s : Int) (w : World) (hOk : ∀ X, KO w X → Ok X) (hn : n * 8 ≤ 140737488351232) (hx : ∀ x ∈ xs, x.1 < n ∧ (Lit.int .i64 x.2).wf = true) (hm : SM w mp) :
    Calls Tryz.prog 99 #[.func (.func gf) #[] lb, .int .i64 (n : Int), .map (some mp), .int .i64 s] w fun e w' =>
      ∃ g, e = .returned (.slice (some ⟨g, 0, none⟩) n n) ∧ Row .i64 w' (some ⟨g, 0, none⟩) n n (Ne.nr s n xs).2 ∧ KO w w' := by
  obtain ⟨cur, hcl, hmk⟩ := nmade_ints n hn
  have HCL := hide hcl
  have HX := hide hx
  have HM := hide hm
  have HN := hide hn
  clear hcl hx hm hn
  refine (callsIn_wide (n := 3)).1 ?_
  refine callsIn_of_wp_marks Tryz.func99 rfl trivial ?_
  simp only [Tryz.ntmps99, List.size_toArray, List.length_cons, List.length_nil, Nat.reduceAdd, Nat.reduceSub, Array.replicate_succ, Array.replicate_zero, List.push_toArray, List.append_toArray, List.nil_append, List.cons_append]
  gi_wp2_with fail
  obtain ⟨W0, hW0⟩ : ∃ W0, ((((w.alloc (Obj.cells #[Value.map (some mp)] 115)).alloc (Obj.cells cur 3)).alloc (Obj.cells #[Value.slice (some ⟨w.heap.size + 1, 0, none⟩) n n] 27)).alloc (Obj.cells #[Value.int IntKind.i64 s] 3)) = W0 := ⟨_, rfl⟩
  have h0 := NW.start w n mp s cur HCL.out (by unfold maxLen; have := HN.out; omega)
  have hsz : W0.heap.size = w.heap.size + 4 := by rw [← hW0]; simp
  rw [hW0] at h0 ⊢
  clear hW0
  apply wpIn_range (ck := true) (gf := gf) (lb := lb) rfl eg hseq (fun _ => rfl)
    (fun pre X => NW w n mp (Ne.nr s n pre) X) (fun _ _ _ => False) (fun pre X h => hOk X h.bel) (fun pre X Y h hc => h.ch hc (by omega)) (fun _ _ _ _ h _ => h) h0 _ ?assign ?body ?done ?stop
  case assign =>
    intro m l x W K hK
    unfold enc2
    gi_wp2
    exact hK
  case body =>
    rintro m l pre x X hT hpre hXs
    have hmem : x ∈ xs := by
      have := List.mem_of_getElem? (prefix_at hpre).1
      exact this
    have hx1 := (HX.out x hmem).1
    have hlk := (HM.out.below hT.bel).look x.2 (HX.out x hmem).2
    obtain ⟨i, z⟩ := x
    dsimp only at hx1 hlk
    have hin : (i : Int) < (n : Int) := by omega
    have HSN := hide (Ne.nr_snoc s n pre (i, z))
    unfold Ne.stp at HSN
    dsimp only at HSN
    generalize Ne.nr s n pre = a at *
    have cs := hT.bs.cell
    have cm := hT.bm.cell
    have cl := hT.bl.cell
    have fl := hT.bl.frozen
    have cx := hT.cell hx1
    have fx := hT.own.frozenAt i
    have HT := hide hT
    have HSZ := hide hsz
    have HI := hide hx1
    clear hmem hpre hXs hx1 hT hsz h0 hOk hseq eg hmk
    generalize hQ : rPost _ _ _ _ X = Q
    have HQ := hide hQ
    clear hQ
    by_cases hs : Ne.sd z = 0
    · rw [if_pos hs] at HSN
      rw [hs] at hlk
      gi_wp2
      rw [← HQ.out]
      refine ⟨Beyond.setCell X (p := ⟨w.heap.size + 1, i, none⟩) (by show w.heap.size + 1 < _; have := HSZ.out; omega) _, ?_⟩
      show NW w n mp (Ne.nr s n (pre ++ [(i, z)])) _
      rw [HSN.out]
      exact HT.out.met i a.1
    · rw [if_neg hs] at HSN
      have hb : (Ne.sd z != 0) = true := bne_iff_ne.2 hs
      clear hs
      rw [hb] at hlk
      clear hb
      generalize Ne.sd z = y at *
      have HT2 := hide (HT.out.last y)
      have cm2 := HT2.out.bm.cell
      have cl2 := HT2.out.bl.cell
      have cx2 := HT2.out.cell HI.out
      have fx2 := HT2.out.own.frozenAt i
      obtain ⟨X2, hX2⟩ : ∃ X2, X.setCell ⟨w.heap.size + 3, 0, none⟩ (.int .i64 y) = X2 := ⟨_, rfl⟩
      rw [hX2] at HT2 cm2 cl2 cx2 fx2
      gi_wp2
      rw [← HQ.out]
      refine ⟨(Beyond.setCell X (p := ⟨w.heap.size + 3, 0, none⟩) (by show w.heap.size + 3 < _; have := HSZ.out; omega) (.int .i64 y)).trans (by rw [hX2]; exact Beyond.setCell X2 (p := ⟨w.heap.size + 1, i, none⟩) (by show w.heap.size + 1 < _; have := HSZ.out; omega) _), ?_⟩
      show NW w n mp (Ne.nr s n (pre ++ [(i, z)])) _
      rw [HSN.out]
      exact HT2.out.met i y
  case done =>
    rintro D W hD hWs hM hK
    have cm := hM.bm.cell
    have HM2 := hide hM
    have HD := hide hD
    have HSZ := hide hsz
    clear hM hD hWs h0 hsz hOk hseq eg hmk
    gi_wp2
    refine ⟨by simp, .inl ⟨_, _, rfl, run_takeDeferred hK, ?_⟩⟩
    have hc : Ch true w.heap.size W (W.putObj D (.deferred none)) := Ch.put (by have := HD.out; have := HSZ.out; omega) hK rfl _
    have hM := HM2.out.ch hc (Nat.le_refl _)
    exact ⟨_, results_tmp rfl _ _ _, w.heap.size + 1, rfl, row_owned hM.own, hM.bel⟩
  case stop =>
    rintro D c pre W _ _ _ h _
    exact h.elim
end Go.Proofs.YtmdmehopefgndaaGreatDoor

/- Resolve. -/
namespace Go.Proofs.YtmdmehopefgndaaGreatDoor
open Go.RowKit
set_option linter.unusedVariables false
set_option maxHeartbeats 1000000
set_option maxRecDepth 100000
def WF (t : List Int) : Prop := ∀ x ∈ t, (Lit.int .i64 x).wf = true
theorem WF.at {t : List Int} (h : WF t) (i : Nat) : (Lit.int .i64 (t.getD i 0)).wf = true := by
  by_cases hi : i < t.length
  · rw [show t.getD i 0 = t[i] from by simp [List.getD, List.getElem?_eq_getElem hi]]
    exact h _ (List.getElem_mem _)
  · rw [show t.getD i 0 = 0 from by simp [List.getD, List.getElem?_eq_none (Nat.not_lt.1 hi)]]
    decide
theorem ups_wf {t : List Int} {n : Nat} (h : WF t) (hl : t.length = n) : ∀ x ∈ Ne.ups t, x.1 < n ∧ (Lit.int .i64 x.2).wf = true := by
  intro x hx
  unfold Ne.ups at hx
  obtain ⟨k, hk, rfl⟩ := List.mem_map.1 hx
  have := List.mem_range.1 hk
  exact ⟨by omega, h.at k⟩
theorem downs_wf {t : List Int} {n : Nat} (h : WF t) (hl : t.length = n) : ∀ x ∈ Ne.downs t, x.1 < n ∧ (Lit.int .i64 x.2).wf = true := by
  intro x hx
  unfold Ne.downs at hx
  obtain ⟨k, hk, rfl⟩ := List.mem_map.1 hx
  have := List.mem_range.1 hk
  exact ⟨by show t.length - 1 - k < n; omega, h.at _⟩
theorem KO.new {w w' : World} (h : KO w w') (v : Value) (t : TypeId) {X : World} (hX : KO (w'.alloc (.cells #[v] t)) X) : X.cell? ⟨w'.heap.size, 0, none⟩ = some v := by
  have h1 := Boxed.new w' t v
  have h2 : X.heap[w'.heap.size]? = some (.cells #[v] t (0, 0)) := (Below.block hX _ (by simp)).trans h1
  simp [World.cell?, h2]
/-- nearest, onward. -/
theorem near_up (ao : Option Addr) (n cap mp : Nat) (s : Int) (t : List Int) (w : World) (h : Row .i64 w ao n cap t) (hf : WF t) (hn : n * 8 ≤ 140737488351232) (hm : SM w mp) :
    Calls Tryz.prog 99 #[.func (.func 118) #[] #[.pointer (some ⟨w.heap.size, 0, none⟩)], .int .i64 (n : Int), .map (some mp), .int .i64 s] (w.alloc (.cells #[.slice ao n cap] 27)) fun e w' =>
      ∃ g, e = .returned (.slice (some ⟨g, 0, none⟩) n n) ∧ Row .i64 w' (some ⟨g, 0, none⟩) n n (Ne.AH t s) ∧ KO w w' := by
  have hka : KO w (w.alloc (.cells #[.slice ao n cap] 27)) := KO.alloc (KO.refl _) _
  refine (nearest_any _ _ (enters_of Tryz.func118 (by kernel_rfl) rfl) (Ne.ups t) _ (all1_seq w.heap.size ao n cap t (by omega)) n mp s _ (fun X hX => ⟨KO.new (KO.refl w) _ _ hX, h.below (KO.on hka hX)⟩) hn (ups_wf hf h.len) (hm.below hka)).mono ?_
  rintro e w' ⟨g, rfl, hr, hk⟩
  refine ⟨g, rfl, ?_, KO.on hka hk⟩
  rw [← h.len, Ne.nr_all_ups] at hr
  rw [← h.len]; exact hr
/-- nearest, backward. -/
theorem near_down (ao : Option Addr) (n cap mp : Nat) (s : Int) (t : List Int) (w : World) (h : Row .i64 w ao n cap t) (hf : WF t) (hn : n * 8 ≤ 140737488351232) (hm : SM w mp) :
    Calls Tryz.prog 99 #[.func (.func 119) #[] #[.pointer (some ⟨w.heap.size, 0, none⟩)], .int .i64 (n : Int), .map (some mp), .int .i64 s] (w.alloc (.cells #[.slice ao n cap] 27)) fun e w' =>
      ∃ g, e = .returned (.slice (some ⟨g, 0, none⟩) n n) ∧ Row .i64 w' (some ⟨g, 0, none⟩) n n (Ne.BH t s) ∧ KO w w' := by
  have hka : KO w (w.alloc (.cells #[.slice ao n cap] 27)) := KO.alloc (KO.refl _) _
  refine (nearest_any _ _ (enters_of Tryz.func119 (by kernel_rfl) rfl) (Ne.downs t) _ (back1_seq w.heap.size ao n cap t (by omega)) n mp s _ (fun X hX => ⟨KO.new (KO.refl w) _ _ hX, h.below (KO.on hka hX)⟩) hn (downs_wf hf h.len) (hm.below hka)).mono ?_
  rintro e w' ⟨g, rfl, hr, hk⟩
  refine ⟨g, rfl, ?_, KO.on hka hk⟩
  rw [← h.len, Ne.nr_all_downs] at hr
  rw [← h.len]; exact hr
theorem good_cases (lv so eo : Int) : (Ne.Good lv so eo ∧ decide (Ne.Lev lv) = true ∧ decide (Sd so) = true ∧ decide (Sd eo) = true) ∨ (¬ Ne.Good lv so eo ∧ (decide (Ne.Lev lv) = false ∨ (decide (Ne.Lev lv) = true ∧ decide (Sd so) = false) ∨ (decide (Ne.Lev lv) = true ∧ decide (Sd so) = true ∧ decide (Sd eo) = false))) := by
  by_cases h1 : Ne.Lev lv
  · by_cases h2 : Sd so
    · by_cases h3 : Sd eo
      · exact .inl ⟨⟨h1.1, h1.2, h2, h3⟩, decide_eq_true h1, decide_eq_true h2, decide_eq_true h3⟩
      · exact .inr ⟨fun h => h3 h.2.2.2, .inr (.inr ⟨decide_eq_true h1, decide_eq_true h2, decide_eq_false h3⟩)⟩
    · exact .inr ⟨fun h => h2 h.2.2.1, .inr (.inl ⟨decide_eq_true h1, decide_eq_false h2⟩)⟩
  · exact .inr ⟨fun h => h1 ⟨h.1, h.2.1⟩, .inl (decide_eq_false h1)⟩
theorem nresolve_bad (ao : Option Addr) (n cap : Nat) (lv so eo : Int) (w : World) (hb : ¬ Ne.Good lv so eo) :
    Calls Tryz.prog 84 #[.slice ao n cap, .int .i64 lv, .int .i64 so, .int .i64 eo] w fun e w' => e = .returned (.tuple #[.slice none 0 0, .int .i64 2]) ∧ w = w' := by
  have hc := (good_cases lv so eo).resolve_left (fun h => hb h.1)
  have HL := hide (fun w' => isLevel_any lv w')
  have HS := hide (fun w' => isSide_any so w')
  have HE := hide (fun w' => isSide_any eo w')
  replace hc := hc.2
  clear hb
  rcases hc with h1 | ⟨h1, h2⟩ | ⟨h1, h2, h3⟩
  · rw [h1] at HL
    clear h1
    go_enter Tryz.func84, Tryz.ntmps84
    go_wp2_with (go_at_call 94; refine (HL.out _).mono ?_; rintro e w' ⟨rfl, rfl⟩)
    go_ret2
    exact ⟨rfl, rfl⟩
  · rw [h1] at HL
    rw [h2] at HS
    clear h1 h2
    go_enter Tryz.func84, Tryz.ntmps84
    go_wp2_with (first | (go_at_call 94; refine (HL.out _).mono ?_; rintro e w' ⟨rfl, rfl⟩) | (go_at_call 95; refine (HS.out _).mono ?_; rintro e w' ⟨rfl, rfl⟩))
    go_ret2
    exact ⟨rfl, rfl⟩
  · rw [h1] at HL
    rw [h2] at HS
    rw [h3] at HE
    clear h1 h2 h3
    go_enter Tryz.func84, Tryz.ntmps84
    go_wp2_with fail
    refine (HL.out _).mono ?_
    rintro e w' ⟨rfl, rfl⟩
    go_wp2_with fail
    refine (HS.out _).mono ?_
    rintro e w' ⟨rfl, rfl⟩
    go_wp2_with fail
    refine (HE.out _).mono ?_
    rintro e w' ⟨rfl, rfl⟩
    go_wp2
    go_ret2
    exact ⟨rfl, rfl⟩
theorem nmay_tests (x : Int) : (Ne.May x ∧ (Ne.sd x != 0) = true) ∨ (Ne.May x ∧ (Ne.sd x != 0) = false ∧ Ne.neu x = true) ∨ (¬ Ne.May x ∧ (Ne.sd x != 0) = false ∧ Ne.neu x = false) := by
  unfold Ne.May
  by_cases h : Ne.sd x = 0
  · rw [h]
    cases hn : Ne.neu x with
    | true => exact .inr (.inl ⟨.inr rfl, rfl, rfl⟩)
    | false => exact .inr (.inr ⟨by simp, rfl, rfl⟩)
  · exact .inl ⟨.inl h, bne_iff_ne.2 h⟩
theorem nresolve_form (ao : Option Addr) (n cap : Nat) (lv so eo : Int) (t : List Int) (w : World) (h : Row .i64 w ao n cap t) (hf : WF t) (hn : n * 8 ≤ 140737488351232) (hg : Ne.Good lv so eo) (ho : ¬ Ne.Ok t) :
    Calls Tryz.prog 84 #[.slice ao n cap, .int .i64 lv, .int .i64 so, .int .i64 eo] w fun e w' => e = .returned (.tuple #[.slice none 0 0, .int .i64 50]) ∧ KO w w' := by
  obtain ⟨_, h1, h2, h3⟩ := (good_cases lv so eo).resolve_right (fun h => h.1 hg)
  have HL := hide (fun w' => isLevel_any lv w')
  have HS := hide (fun w' => isSide_any so w')
  have HE := hide (fun w' => isSide_any eo w')
  rw [h1] at HL
  rw [h2] at HS
  rw [h3] at HE
  have hn2 : n ≤ 17592186044416 := by omega
  have HM := hide (nsides_any w)
  have H := hide h
  have HLEN := hide h.len
  have HO := hide ho
  have HF := hide hf
  clear h1 h2 h3 hg h ho hn hf
  go_enter Tryz.func84, Tryz.ntmps84
  go_wp2_with fail
  refine (HL.out _).mono ?_
  rintro e w' ⟨rfl, rfl⟩
  go_wp2_with fail
  refine (HS.out _).mono ?_
  rintro e w' ⟨rfl, rfl⟩
  go_wp2_with fail
  refine (HE.out _).mono ?_
  rintro e w' ⟨rfl, rfl⟩
  go_wp2_with fail
  refine HM.out.mono ?_
  rintro e w1 ⟨rfl, hm, hk⟩
  have HSM := hide hm
  have HK := hide hk
  clear hm hk HM HL HS HE
  go_wp2
  go_loopw [34] (fun v wr => ∃ k : Nat, v = .int .i64 (k : Int) ∧ k ≤ n ∧ Hid (∀ i, i < k → Ne.May (t.getD i 0)) ∧ w1 = wr) (fun v _ => n - (intOf v).toNat)
  case atStart => exact ⟨0, rfl, Nat.zero_le _, hide (fun i hi => by omega), rfl⟩
  case round =>
    obtain ⟨k, rfl, hk, hall, rfl⟩ := hrel
    by_cases hlt : k < n
    · obtain ⟨b, off, rfl, hbl, hc⟩ := (H.out.below HK.out).cells (by omega)
      have ck := hc k (by rw [HLEN.out]; exact hlt)
      have hin : (k : Int) < (n : Int) := by omega
      have HH := hide (has_any w.heap.size (t.getD k 0) (HF.out.at k) w1 HSM.out)
      have HNE := hide (fun w' => isNeutral_any (t.getD k 0) w')
      have HM := hide (meas_n0 n k hlt)
      have hcs := nmay_tests (t.getD k 0)
      have HST := hide (fun (hm : Ne.May (t.getD k 0)) (i : Nat) (hi : i < k + 1) => (show Ne.May (t.getD i 0) from by
        by_cases e : i = k
        · subst e; exact hm
        · exact hall.out i (by omega)))
      generalize t.getD k 0 = x at *
      clear hc hall
      rcases hcs with ⟨hm, e1⟩ | ⟨hm, e1, e2⟩ | ⟨hm, e1, e2⟩
      · have HA := hide (HST.out hm)
        rw [e1] at HH
        clear e1 hm HST
        go_wp2_with (go_at_call 97; refine HH.out.mono ?_; rintro e w' ⟨rfl, rfl⟩)
        go_roundw
        case rel => exact ⟨k + 1, by go_num, by omega, HA, trivial⟩
        case measure => exact HM.out
      · have HA := hide (HST.out hm)
        rw [e1] at HH
        rw [e2] at HNE
        clear e1 e2 hm HST
        go_wp2_with (first | (go_at_call 97; refine HH.out.mono ?_; rintro e w' ⟨rfl, rfl⟩) | (go_at_call 98; refine (HNE.out _).mono ?_; rintro e w' ⟨rfl, rfl⟩))
        go_roundw
        case rel => exact ⟨k + 1, by go_num, by omega, HA, trivial⟩
        case measure => exact HM.out
      · rw [e1] at HH
        rw [e2] at HNE
        clear e1 e2 hm HST
        go_wp2_with (first | (go_at_call 97; refine HH.out.mono ?_; rintro e w' ⟨rfl, rfl⟩) | (go_at_call 98; refine (HNE.out _).mono ?_; rintro e w' ⟨rfl, rfl⟩))
        go_ret2
        exact ⟨rfl, HK.out⟩
    · obtain rfl : k = n := by omega
      exact absurd (fun i hi => hall.out i (by rw [HLEN.out] at hi; exact hi)) HO.out
theorem sd_row {t : List Int} {lv so eo : Int} {k : Nat} (h : Ne.sd (t.getD k 0) ≠ 0) : Ne.r1 t lv so eo k = t.getD k 0 := by unfold Ne.r1; rw [if_neg h]
theorem nresolve_ok (ao : Option Addr) (n cap : Nat) (lv so eo : Int) (t : List Int) (w : World) (h : Row .i64 w ao n cap t) (hf : WF t) (hn : n * 8 ≤ 140737488351232) (hg : Ne.Good lv so eo) (ho : Ne.Ok t) :
    Calls Tryz.prog 84 #[.slice ao n cap, .int .i64 lv, .int .i64 so, .int .i64 eo] w fun e w' => ∃ g, e = .returned (.tuple #[.slice (some ⟨g, 0, none⟩) n n, .int .i64 0]) ∧ Row .i64 w' (some ⟨g, 0, none⟩) n n (Ne.RS t lv so eo) ∧ KO w w' := by
  obtain ⟨_, h1, h2, h3⟩ := (good_cases lv so eo).resolve_right (fun h => h.1 hg)
  have HL := hide (fun w' => isLevel_any lv w')
  have HS := hide (fun w' => isSide_any so w')
  have HE := hide (fun w' => isSide_any eo w')
  rw [h1] at HL
  rw [h2] at HS
  rw [h3] at HE
  have hn2 : n ≤ 17592186044416 := by omega
  have HM := hide (nsides_any w)
  have H := hide h
  have HLEN := hide h.len
  have HO := hide ho
  have HF := hide hf
  have HNN := hide hn
  have HLS := hide (fun w' => nlevelSide_any lv hg.1 w')
  obtain ⟨cur, hcl, hmk⟩ := nmade_ints n hn
  have HCL := hide hcl
  have HMK := hide hmk
  clear h1 h2 h3 hg h ho hn hf hcl hmk
  go_enter Tryz.func84, Tryz.ntmps84
  go_wp2_with fail
  refine (HL.out _).mono ?_
  rintro e w' ⟨rfl, rfl⟩
  go_wp2_with fail
  refine (HS.out _).mono ?_
  rintro e w' ⟨rfl, rfl⟩
  go_wp2_with fail
  refine (HE.out _).mono ?_
  rintro e w' ⟨rfl, rfl⟩
  go_wp2_with fail
  refine HM.out.mono ?_
  rintro e w1 ⟨rfl, hm, hk⟩
  have HSM := hide hm
  have HK := hide hk
  clear hm hk HM HL HS HE
  go_wp2
  go_loopw [34] (fun v wr => ∃ k : Nat, v = .int .i64 (k : Int) ∧ k ≤ n ∧ w1 = wr) (fun v _ => n - (intOf v).toNat)
  case atStart => exact ⟨0, rfl, Nat.zero_le _, rfl⟩
  case round =>
    obtain ⟨k, rfl, hk, rfl⟩ := hrel
    by_cases hlt : k < n
    · obtain ⟨b, off, rfl, hbl, hc⟩ := (H.out.below HK.out).cells (by omega)
      have ck := hc k (by rw [HLEN.out]; exact hlt)
      have hin : (k : Int) < (n : Int) := by omega
      have HH := hide (has_any w.heap.size (t.getD k 0) (HF.out.at k) w1 HSM.out)
      have HNE := hide (fun w' => isNeutral_any (t.getD k 0) w')
      have HM := hide (meas_n0 n k hlt)
      have hcs := nmay_tests (t.getD k 0)
      have hmay := HO.out k (by rw [HLEN.out]; exact hlt)
      generalize t.getD k 0 = x at *
      clear hc
      rcases hcs with ⟨hm, e1⟩ | ⟨hm, e1, e2⟩ | ⟨hm, e1, e2⟩
      · rw [e1] at HH
        clear e1 hm hmay
        go_wp2_with (go_at_call 97; refine HH.out.mono ?_; rintro e w' ⟨rfl, rfl⟩)
        go_roundw
        case rel => exact ⟨k + 1, by go_num, by omega, trivial⟩
        case measure => exact HM.out
      · rw [e1] at HH
        rw [e2] at HNE
        clear e1 e2 hm hmay
        go_wp2_with (first | (go_at_call 97; refine HH.out.mono ?_; rintro e w' ⟨rfl, rfl⟩) | (go_at_call 98; refine (HNE.out _).mono ?_; rintro e w' ⟨rfl, rfl⟩))
        go_roundw
        case rel => exact ⟨k + 1, by go_num, by omega, trivial⟩
        case measure => exact HM.out
      · exact absurd hmay hm
    · obtain rfl : k = n := by omega
      have hne : ¬ ((k : Int) < (k : Int)) := by omega
      clear hlt hk
      have R1 := H.out.below HK.out
      have HNU := hide (near_up ao k cap w.heap.size so t w1 R1 HF.out HNN.out HSM.out)
      have HR1 := hide R1
      clear R1
      go_wp2_with fail
      refine (all_any _ _ _ _).mono ?_
      rintro e w' ⟨rfl, rfl⟩
      go_wp2_with fail
      refine HNU.out.mono ?_
      rintro e w3 ⟨g3, rfl, hr3, hk3⟩
      have HND := hide (near_down ao k cap w.heap.size eo t w3 (HR1.out.below hk3) HF.out HNN.out (HSM.out.below hk3))
      have HR3 := hide hr3
      have HK3 := hide hk3
      clear hr3 hk3 HNU
      go_wp2_with fail
      refine (back_any _ _ _ _).mono ?_
      rintro e w' ⟨rfl, rfl⟩
      go_wp2_with fail
      refine HND.out.mono ?_
      rintro e w5 ⟨g5, rfl, hr5, hk5⟩
      have HK5 := hide (KO.on HK3.out hk5)
      have HR5 := hide (HR3.out.below hk5)
      have HB5 := hide hr5
      have HT5 := hide (HR1.out.below HK5.out)
      have HS5 := hide (HSM.out.below HK5.out)
      have HKW := hide (KO.on HK.out HK5.out)
      clear hr5 hk5 HND HR3 HK3 HR1 HSM HK
      have hmk := HMK.out w5
      have HO0 : Hid (OW w5.heap.size w5.heap.size k k (Ne.RL t lv so eo 0) w5 (w5.alloc (.cells cur 3))) := hide ⟨by
        rw [Ne.RL_zero, HLEN.out]
        exact owns_block (cur := cur) (World.alloc_heap_new w5 _) HCL.out (by simp) (by unfold maxLen; have := HNN.out; omega) (Nat.le_refl _), (Below.refl _ _).alloc (Nat.le_refl _) _⟩
      go_wp2
      go_loopw [67] (fun v wr => ∃ j : Nat, v = .int .i64 (j : Int) ∧ j ≤ k ∧ Hid (OW w5.heap.size w5.heap.size k k (Ne.RL t lv so eo j) w5 wr)) (fun v _ => k - (intOf v).toNat)
      case atStart => exact ⟨0, rfl, Nat.zero_le _, HO0⟩
      case round =>
        obtain ⟨j, rfl, hj, hW⟩ := hrel
        by_cases hlt : j < k
        · have HTr := hide (HT5.out.below hW.out.bel)
          obtain ⟨b, off, rfl, hbl, hc⟩ := HTr.out.cells (by omega)
          have ck := hc j (by rw [HLEN.out]; exact hlt)
          have cA := rowAt (w' := wr) HR5.out hW.out.bel j hlt
          have cB := rowAt (w' := wr) HB5.out hW.out.bel j hlt
          rw [Nat.zero_add] at cA cB
          rw [Ne.AH_at _ _ (by rw [HLEN.out]; exact hlt)] at cA
          rw [Ne.BH_at _ _ (by rw [HLEN.out]; exact hlt)] at cB
          have hin : (j : Int) < (k : Int) := by omega
          have HH := hide (has_any w.heap.size (t.getD j 0) (HF.out.at j) wr (HS5.out.below hW.out.bel))
          have HM := hide (meas_n0 k j hlt)
          have co := hW.out.cell hlt
          have fo := hW.out.own.frozenAt j
          have HN := hide (fun (nq : Nat) (y : Int) (hy : Ne.r1 t lv so eo j = y) => (show OW w5.heap.size w5.heap.size k k (Ne.RL t lv so eo (j + 1)) w5 ((wr.drewN nq).setCell ⟨w5.heap.size, j, none⟩ (.int .i64 y)) from by
            rw [← Ne.RL_succ, hy]; exact (hW.out.drewN nq).set j y))
          have HN0 := hide (fun (y : Int) (hy : Ne.r1 t lv so eo j = y) => (show OW w5.heap.size w5.heap.size k k (Ne.RL t lv so eo (j + 1)) w5 (wr.setCell ⟨w5.heap.size, j, none⟩ (.int .i64 y)) from by
            rw [← Ne.RL_succ, hy]; exact hW.out.set j y))
          generalize (Ne.RL t lv so eo j).getD j 0 = old at co
          clear hc hbl
          by_cases hs : Ne.sd (t.getD j 0) = 0
          · have hb : (Ne.sd (t.getD j 0) != 0) = false := by rw [hs]; rfl
            rw [hb] at HH
            clear hb
            have hr : Ne.r1 t lv so eo j = if Ne.ah t so (j + 1) = Ne.ah t.reverse eo (t.length - j) then Ne.ah t so (j + 1) else Ne.es lv := by
              unfold Ne.r1; rw [if_pos hs]
            clear hs HN0
            generalize t.getD j 0 = x at *
            generalize Ne.ah t so (j + 1) = u at *
            generalize Ne.ah t.reverse eo (t.length - j) = v at *
            by_cases huv : u = v
            · rw [if_pos huv] at hr
              have HNX := hide (fun nq => HN.out nq u hr)
              subst huv
              clear hr HN
              go_wp2_with (go_at_call 97; refine HH.out.mono ?_; rintro e w' ⟨rfl, rfl⟩)
              go_quiet (fail)
              go_wp2
              go_roundw
              case rel => exact ⟨j + 1, by go_num, by omega, hide (HNX.out _)⟩
              case measure => exact HM.out
            · rw [if_neg huv] at hr
              have HNX := hide (fun nq => HN.out nq _ hr)
              have he : (u == v) = false := beq_false_of_ne huv
              clear hr HN huv
              generalize Ne.es lv = y at *
              go_wp2_with (go_at_call 97; refine HH.out.mono ?_; rintro e w' ⟨rfl, rfl⟩)
              go_quiet (fail)
              go_wp2_with (go_at_call 102; refine (HLS.out _).mono ?_; rintro e w' ⟨rfl, rfl⟩)
              go_roundw
              case rel => exact ⟨j + 1, by go_num, by omega, hide (HNX.out _)⟩
              case measure => exact HM.out
          · have hb : (Ne.sd (t.getD j 0) != 0) = true := bne_iff_ne.2 hs
            rw [hb] at HH
            clear hb
            have HNX := hide (HN0.out _ (sd_row hs))
            clear hs HN HN0 cA cB
            generalize t.getD j 0 = x at *
            go_wp2_with (go_at_call 97; refine HH.out.mono ?_; rintro e w' ⟨rfl, rfl⟩)
            go_roundw
            case rel => exact ⟨j + 1, by go_num, by omega, HNX⟩
            case measure => exact HM.out
        · obtain rfl : j = k := by omega
          have hne : ¬ ((j : Int) < (j : Int)) := by omega
          have HWW := hide (show Row .i64 wr (some ⟨w5.heap.size, 0, none⟩) j j (Ne.RS t lv so eo) ∧ KO w wr from by
            have h2 := hW.out.row
            rw [← HLEN.out, Ne.RL_all, HLEN.out] at h2
            exact ⟨h2, KO.on HKW.out hW.out.bel⟩)
          clear hW hlt
          go_wp2
          go_ret2
          exact ⟨_, rfl, HWW.out.1, HWW.out.2⟩
end Go.Proofs.YtmdmehopefgndaaGreatDoor
