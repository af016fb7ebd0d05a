/- All: a range over a rope by a function that keeps a counter of its own. -/
import Derived.Test.YteiljaecaahonaaClimb
import Derived.Test.YteiljaecaahonaaAt
import Derived.Test.YteiljaecaahonaaPara
namespace Go.Proofs.Yteiljaecaahonaa
open Go.RowKit Go.Shelf
set_option linter.unusedVariables false
set_option maxHeartbeats 1000000
set_option maxRecDepth 100000
attribute [local go_sem] Oper.semAt_some
theorem All_any (p : Option Addr) (w : World) :
    Calls Try.prog 23 #[.pointer p] w fun e w' => e = .returned (.func (.func 51) #[] #[.pointer (some ⟨w.heap.size, 0, none⟩)]) ∧ w' = w.alloc (.cells #[.pointer p] 24) := by
  go_enter Try.func23, Try.ntmps23
  go_wp2
  go_ret
  exact ⟨rfl, rfl⟩
/-- Numbers with their places. -/
def ats (l : List Int) : List (Nat × Int) := (List.range l.length).map fun i => (i, l.getD i 0)
theorem ats_len (l : List Int) : (ats l).length = l.length := by simp [ats]
theorem ats_at (l : List Int) (k : Nat) (x : Int) (h : l[k]? = some x) : (ats l)[k]? = some (k, x) := by
  obtain ⟨hk, hx⟩ := List.getElem?_eq_some_iff.1 h
  simp [ats, hk, hx]
/-- A rope that nobody made hands on nothing. -/
theorem all1_nobody (c : Bool) (Bt : Nat) (p : Option Addr) (encs : Nat × Int → Array Value) :
    Seq c Try.prog 51 #[.pointer (some ⟨Bt, 0, none⟩)] encs [] (fun X => X.cell? ⟨Bt, 0, none⟩ = some (.pointer p) ∧ Nobody X p) := by
  intro n l J Jx W hOk hJ hJx hY h0
  obtain ⟨cB, hn⟩ := hOk _ _ h0
  have hk1 : KO W (W.alloc (.cells #[.func (.yield l) #[] #[]] 89)) := KO.alloc (KO.refl _) _
  have HS := hide (stands_nobody p _ (hn.below hk1))
  have hlt : Bt < W.heap.size := by simpa using World.block_lt_of_cell? W _ cB
  have cB1 : (W.alloc (.cells #[.func (.yield l) #[] #[]] 89)).cell? ⟨Bt, 0, none⟩ = some (.pointer p) := (Below.cell hk1 (by exact hlt)).trans cB
  have HJ := hide (hJ _ _ _ h0 (Ch.alloc (Nat.le_refl _) (.cells #[.func (.yield l) #[] #[]] 89)))
  clear hn hk1 hlt h0 hOk hJ hJx hY cB
  refine callsIn_of_wp Try.func51 rfl trivial ?_
  simp only [Try.ntmps51, List.size_toArray, List.length_cons, List.length_nil, Nat.reduceAdd, Nat.reduceSub, Array.replicate_succ, Array.replicate_zero, List.push_toArray, List.append_toArray, List.nil_append, List.cons_append]
  gi_wp2_with fail
  refine ⟨trivial, fun h => (by cases h), ?_⟩
  refine (callsIn_wide.2 HS.out).mono ?_
  rintro e w' ⟨rfl, rfl⟩
  gi_wp2_with fail
  refine bodyPost_ret (results_none rfl _ _ _) rfl ?_
  exact ⟨⟨_, rfl⟩, by simp, .inl HJ.out⟩
theorem RoundIn.inRound {F : Fence} {n : Nat} {P : Program} {l : Nat} {f : FuncId} {tmps : Array Value} {assign body : Code} {w : World} {R : Ending → World → Prop} (k : Nat) (h : RoundIn F n P l f tmps assign body w R) : RoundIn (F.inRound k) n P l f tmps assign body w R := h
/-- What All's function keeps while it ranges. -/
structure AllMid (W0 : World) (l : Nat) (t : Tr) (J : List (Nat × Int) → World → Prop) (k : Nat) (W : World) : Prop where
  out : J ((ats t.list).take k) W
  yld : Boxed W W0.heap.size 89 (.func (.yield l) #[] #[])
  cnt : Boxed W (W0.heap.size + 1) 3 (.int .i64 (k : Int))
  ok : FromOk t (W0.heap.size + 2) (W0.heap.size + 3) 0 W
theorem AllMid.kept {W0 : World} {l : Nat} {t : Tr} {J : List (Nat × Int) → World → Prop} {k : Nat} {X Y : World} {B : Nat} (hJ : ∀ pre X Y, J pre X → Ch false W0.heap.size X Y → J pre Y) (hL : ∀ pre X, J pre X → Lies X t) (h : AllMid W0 l t J k X) (hb : Below B X Y) (hB : W0.heap.size + 4 ≤ B) : AllMid W0 l t J k Y :=
  have hj := hJ _ _ _ h.out (Ch.free (hb.mono (by omega)))
  ⟨hj, (hb.block _ (by omega)).trans h.yld, (hb.block _ (by omega)).trans h.cnt, ⟨(hb.cell (by show W0.heap.size + 2 < B; omega)).trans h.ok.node, (hb.cell (by show W0.heap.size + 3 < B; omega)).trans h.ok.place, hL _ _ hj⟩⟩
/-- A rope's numbers with their places, from the first one on. -/
theorem all1_rope (Bt b : Nat) (t : Tr) (hs : t.size ≤ 4611686018427387904) :
    Seq false Try.prog 51 #[.pointer (some ⟨Bt, 0, none⟩)] (fun x : Nat × Int => #[Value.int .i64 (x.1 : Int), Value.int .i32 x.2]) (ats t.list) (fun X => X.cell? ⟨Bt, 0, none⟩ = some (.pointer (some ⟨b, 0, none⟩)) ∧ IsRope X b t) := by
  intro n l J Jx W hOk hJ hJx hY h0
  obtain ⟨cB, hr⟩ := hOk _ _ h0
  have hltB : Bt < W.heap.size := by simpa using World.block_lt_of_cell? W _ cB
  obtain ⟨W1, hW1⟩ : ∃ W1, W.alloc (.cells #[.func (.yield l) #[] #[]] 89) = W1 := ⟨_, rfl⟩
  have hk1 : KO W W1 := by rw [← hW1]; exact KO.alloc (KO.refl _) _
  have hs1 : W1.heap.size = W.heap.size + 1 := by rw [← hW1]; simp
  have cB1 : W1.cell? ⟨Bt, 0, none⟩ = some (.pointer (some ⟨b, 0, none⟩)) := (Below.cell hk1 (by exact hltB)).trans cB
  have bY1 : Boxed W1 W.heap.size 89 (.func (.yield l) #[] #[]) := by rw [← hW1]; exact Boxed.new _ _ _
  have HS := hide (stands_rope b t W1 (hr.below hk1))
  obtain ⟨V, hV⟩ : ∃ V, W1.alloc (.cells #[.int .i64 0] 3) = V := ⟨_, rfl⟩
  have hk2 : KO W V := by rw [← hV]; exact KO.alloc hk1 _
  have hVs : V.heap.size = W.heap.size + 2 := by rw [← hV]; simp; omega
  have cB2 : V.cell? ⟨Bt, 0, none⟩ = some (.pointer (some ⟨b, 0, none⟩)) := (Below.cell hk2 (by exact hltB)).trans cB
  have cT2 : V.cell? ⟨b, 1, none⟩ = some (.pointer t.at) := (hr.below hk2).top
  have bY2 : Boxed V W.heap.size 89 (.func (.yield l) #[] #[]) := by rw [← hV]; exact bY1.alloc _
  have bC2 : Boxed V (W.heap.size + 1) 3 (.int .i64 0) := by rw [← hV, ← hs1]; exact Boxed.new _ _ _
  obtain ⟨p, hp⟩ : ∃ p, t.at = p := ⟨_, rfl⟩
  rw [hp] at cT2
  rw [← hV] at cB2 cT2
  have HVV := hide hV
  have HP := hide hp
  have HY := hide hY
  have HJ := hide hJ
  have HJX := hide hJx
  have HOK := hide hOk
  have H0 := hide h0
  have HK2 := hide hk2
  have HVS := hide hVs
  have HBY := hide bY2
  have HBC := hide bC2
  have HW1S := hide hs1
  clear hY hJ hJx hOk h0 hk1 hk2 hVs bY1 bY2 bC2 hp hltB cB hr hV
  refine callsIn_of_wp_marks Try.func51 rfl trivial ?_
  simp only [Try.ntmps51, List.size_toArray, List.length_cons, List.length_nil, Nat.reduceAdd, Nat.reduceSub, Array.replicate_succ, Array.replicate_zero, List.push_toArray, List.append_toArray, List.nil_append, List.cons_append]
  gi_wp2_with fail
  refine ⟨trivial, fun h => (by cases h), ?_⟩
  refine (callsIn_wide.2 HS.out).mono ?_
  rintro e w' ⟨rfl, rfl⟩
  gi_wp2_with fail
  refine ⟨trivial, fun h => (by cases h), ?_⟩
  refine (callsIn_wide.2 (from_any p 0 _)).mono ?_
  rintro e w' ⟨rfl, rfl⟩
  rw [HVV.out]
  clear cB2 cT2
  gi_wp2_with fail
  obtain ⟨U, hU⟩ : ∃ U, ((V.alloc (Obj.cells #[Value.pointer p] 35)).alloc (Obj.cells #[Value.int IntKind.i64 0] 3)) = U := ⟨_, rfl⟩
  rw [hU]
  have hVs := HVS.out
  have hUs : U.heap.size = W.heap.size + 4 := by rw [← hU]; simp; omega
  have hbU : Below V.heap.size V U := by rw [← hU]; exact ((Below.refl _ V).alloc (Nat.le_refl _) _).alloc (by simp) _
  have hkU : KO W U := KO.on HK2.out hbU
  have hLies : ∀ pre X, J pre X → Lies X t := fun pre X h => (HOK.out pre X h).2.lies
  have h0 : AllMid W l t J 0 U := by
    have hj : J ((ats t.list).take 0) U := by simpa using HJ.out [] W U H0.out (Ch.free hkU)
    refine ⟨hj, (hbU.block _ (by omega)).trans HBY.out, (hbU.block _ (by omega)).trans HBC.out, ⟨?_, ?_, hLies _ _ hj⟩⟩
    · rw [← hU, ← hVs, HP.out]; exact ((Boxed.new V _ _).alloc _).cell
    · rw [← hU]
      have := (Boxed.new (V.alloc (Obj.cells #[Value.pointer p] 35)) 3 (Value.int IntKind.i64 0)).cell
      rw [World.size_alloc, hVs] at this; exact this
  rw [hVs]
  clear hU hbU
  refine wpIn_range (ck := false) (gf := 56) (lb := #[.pointer (some ⟨W.heap.size + 2, 0, none⟩), .pointer (some ⟨W.heap.size + 2 + 1, 0, none⟩)]) rfl (enters_of Try.func56 (by kernel_rfl) rfl) (from1_seq t (W.heap.size + 2) (W.heap.size + 3) 0 hs false) (fun _ => rfl)
    (fun pre X => AllMid W l t J pre.length X) (fun c pre X => c = .ret ∧ ∃ q, q <+: ats t.list ∧ Jx q X) (fun pre X h => h.ok) (fun pre X Y h hc => h.kept HJ.out hLies hc.below (by omega)) (fun c pre X Y ⟨h1, q, h2, h⟩ hc => ⟨h1, q, h2, HJX.out q X Y h (hc.mono (by omega))⟩) h0
    (fun x => { tmps := #[.func (.yield l) #[] #[], .pointer (some ⟨Bt, 0, none⟩), .pointer (some ⟨W.heap.size, 0, none⟩), .pointer (some ⟨W.heap.size + 1, 0, none⟩), .int .i32 x, .pointer (some ⟨b, 0, none⟩), .bool true, .bool false, .pointer (some ⟨b, 0, none⟩), .pointer (some ⟨b, 0, none⟩), .pointer (some ⟨b, 1, none⟩), .pointer p, .func (.func 56) #[] #[.pointer (some ⟨W.heap.size + 2, 0, none⟩), .pointer (some ⟨W.heap.size + 2 + 1, 0, none⟩)], .int .i32 x, undef, undef, undef, undef, undef, undef, undef], defers := [] }) ?assign ?body ?done ?stop
  case assign =>
    intro m l x W K hK
    gi_wp2
    exact hK
  case body =>
    rintro m l' pre x X hM hpre hXs
    have hx := (prefix_at hpre).1
    rw [List.getElem?_drop, Nat.zero_add] at hx
    obtain ⟨k, hk⟩ : ∃ k, pre.length = k := ⟨_, rfl⟩
    rw [hk] at hM hx
    have hkl : k < t.list.length := (List.getElem?_eq_some_iff.1 hx).1
    have hat := take_snoc' _ _ _ (ats_at t.list k x hx)
    have hks : k + 1 ≤ 9223372036854775807 := by unfold Tr.size at hs; omega
    have e8 := w64_nat (show (k : Int) + 1 = ((k + 1 : Nat) : Int) by omega) hks
    obtain ⟨fn, tmps, assign, body, hy, hR⟩ := HY.out (m - 1) _ (k, x) X hM.out (by rw [← hat]; exact prefix_take _ _) (by omega)
    rw [← hat] at hR
    dsimp only at hy
    have cy := hM.yld.cell
    have cc := hM.cnt.cell
    have HM := hide hM
    have HXS := hide hXs
    have HUS := hide hUs
    have HKP := hide hk
    generalize hQ : rPost _ _ _ _ X = Q
    have HQ := hide hQ
    clear hQ hM hpre hXs hx hk hkl hat hks h0 hUs hVs hs hkU
    gi_wp2_with fail
    refine ⟨fun h => (by cases h), ?_⟩
    refine (RoundIn.inRound l' hR).mono ?_
    rintro e Y ⟨hbey, (⟨rfl, hj2⟩ | ⟨rfl, hx2⟩)⟩
    · have hxs := HXS.out
      have hus := HUS.out
      have bC : Boxed Y (W.heap.size + 1) 3 (.int .i64 (k : Int)) := (hbey.same _ (by omega) (by omega)).trans HM.out.cnt
      have c2 := bC.cell
      have f2 := bC.frozen
      have HBC2 := hide bC
      clear bC hxs hus cc cy hy hR
      gi_wp2_with fail
      rw [← HQ.out]
      have hxs := HXS.out
      have hus := HUS.out
      have hj3 : J ((ats t.list).take (k + 1)) (Y.setCell ⟨W.heap.size + 1, 0, none⟩ (.int .i64 ((k + 1 : Nat) : Int))) := HJ.out _ _ _ hj2 (Ch.free (Below.setCell (Below.refl _ Y) (by show W.heap.size ≤ W.heap.size + 1; omega) _))
      have hl3 : (pre ++ [x]).length = k + 1 := by simp [HKP.out]
      have kc : ∀ i, W.heap.size ≤ i → i < W.heap.size + 4 → i ≠ W.heap.size + 1 → (Y.setCell ⟨W.heap.size + 1, 0, none⟩ (.int .i64 ((k + 1 : Nat) : Int))).heap[i]? = X.heap[i]? := fun i h1 h2 h3 => (Below.heap_setCell _ _ _ _ (by exact h3)).trans (hbey.same i h1 (by omega))
      refine ⟨(hbey.mono (by omega)).trans (Beyond.setCell Y (by show W.heap.size + 1 < _; omega) _), ?_⟩
      show AllMid W l t J (pre ++ [x]).length (Y.setCell ⟨W.heap.size + 1, 0, none⟩ (.int .i64 ((k + 1 : Nat) : Int)))
      rw [hl3]
      refine ⟨hj3, (kc _ (by omega) (by omega) (by omega)).trans HM.out.yld, HBC2.out.set _, ⟨?_, ?_, hLies _ _ hj3⟩⟩
      · exact (World.cell?_of_block (kc _ (by show W.heap.size ≤ W.heap.size + 2; omega) (by show W.heap.size + 2 < _; omega) (by show W.heap.size + 2 ≠ _; omega))).trans HM.out.ok.node
      · exact (World.cell?_of_block (kc _ (by show W.heap.size ≤ W.heap.size + 3; omega) (by show W.heap.size + 3 < _; omega) (by show W.heap.size + 3 ≠ _; omega))).trans HM.out.ok.place
    · clear hy hR
      gi_wp2_with fail
      rw [← HQ.out]
      have hus := HUS.out
      exact ⟨hbey.mono (by omega), rfl, _, prefix_take _ _, hx2⟩
  case done =>
    rintro D Z hD hZs hM hK
    have hlen : (t.list.drop 0).length = (ats t.list).length := by rw [List.drop_zero, ats_len]
    have hj := hM.out
    rw [hlen, List.take_length] at hj
    have HJZ := hide hj
    have HD := hide hD
    have HZS := hide hZs
    have HUS := hide hUs
    clear hM hj hD hZs h0 hUs hVs hkU hlen
    gi_wp2_with fail
    refine ⟨by simp, .inl ⟨_, _, rfl, run_takeDeferred hK, ?_⟩⟩
    have hus := HUS.out
    have hd := HD.out
    have hz := HZS.out
    exact ⟨_, results_none rfl _ _ _, ⟨_, rfl⟩, by simp; omega, .inl (HJ.out _ _ _ HJZ.out (Ch.free (below_put (by omega) _)))⟩
  case stop =>
    rintro D c pre Z hD hZs hpre ⟨rfl, q, hq, hx⟩ hK
    have HD := hide hD
    have HZS := hide hZs
    have HUS := hide hUs
    clear hpre hD hZs h0 hUs hVs hkU
    gi_wp2_with fail
    refine ⟨by simp, .inl ⟨_, _, rfl, run_takeDeferred hK, ?_⟩⟩
    have hus := HUS.out
    have hd := HD.out
    have hz := HZS.out
    exact ⟨_, results_none rfl _ _ _, ⟨_, rfl⟩, by simp; omega, .inr ⟨q, hq, HJX.out _ _ _ hx (Ch.free (below_put (by omega) _))⟩⟩
end Go.Proofs.Yteiljaecaahonaa
