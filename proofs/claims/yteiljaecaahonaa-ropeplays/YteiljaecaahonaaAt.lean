/- At and Slice: ranges over from. -/
import Derived.Test.YteiljaecaahonaaWalk
import Derived.Test.YteiljaecaahonaaOps
import Derived.Maps.AppendAt
namespace Go.Proofs.Yteiljaecaahonaa
open Go.RowKit Go.Shelf
set_option linter.unusedVariables false
set_option maxHeartbeats 1000000
set_option maxRecDepth 100000
attribute [local go_sem] Oper.semAt_some
theorem At_nobody (p : Option Addr) (i : Int) (w : World) (h : Nobody w p) :
    Calls Try.prog 13 #[.pointer p, .int .i64 i] w fun e w' => e = .returned (.tuple #[.int .i32 0, .int .i64 1]) ∧ Below w.heap.size w w' := by
  have HS := hide (fun w' (hk : KO w w') => stands_nobody p w' (h.below hk))
  clear h
  go_enter Try.func13, Try.ntmps13
  go_wp2_with (go_at_call 41; refine (HS.out _ (by first | exact KO.refl _ | exact KO.alloc (KO.refl _) _ | exact KO.alloc (KO.alloc (KO.refl _) _) _)).mono ?_; rintro e w' ⟨rfl, rfl⟩)
  refine bodyPost_ret (by simp [results, Try.results13, go_sem]; rfl) rfl ?_
  exact ⟨rfl, KO.alloc (KO.alloc (KO.refl _) _) _⟩
theorem At_neg (b : Nat) (t : Tr) (i : Int) (w : World) (h : IsRope w b t) (hi : i < 0) :
    Calls Try.prog 13 #[.pointer (some ⟨b, 0, none⟩), .int .i64 i] w fun e w' => e = .returned (.tuple #[.int .i32 0, .int .i64 4]) ∧ Below w.heap.size w w' := by
  have HS := hide (fun w' (hk : KO w w') => stands_rope b t w' (h.below hk))
  have hi' : ¬ (0 ≤ i) := by omega
  clear h
  go_enter Try.func13, Try.ntmps13
  go_wp2_with (go_at_call 41; refine (HS.out _ (KO.alloc (KO.alloc (KO.refl _) _) _)).mono ?_; rintro e w' ⟨rfl, rfl⟩)
  refine bodyPost_ret (by simp [results, Try.results13, go_sem]; rfl) rfl ?_
  exact ⟨rfl, KO.alloc (KO.alloc (KO.refl _) _) _⟩
/-- What At keeps while it ranges. -/
structure AtMid (w : World) (t : Tr) (i : Nat) (x e : Int) (W : World) : Prop where
  num : Boxed W w.heap.size 21 (.int .i32 x)
  err : Boxed W (w.heap.size + 1) 38 (.int .i64 e)
  ok : FromOk t (w.heap.size + 2) (w.heap.size + 3) i W
  old : Below w.heap.size w W
theorem FromOk.below {T : Tr} {Bn Bp skip B : Nat} {X Y w : World} (h : FromOk T Bn Bp skip X) (hb : Below B X Y) (h1 : Bn < B) (h2 : Bp < B) (hl : Lies w T) (hw : Below w.heap.size w Y) : FromOk T Bn Bp skip Y :=
  ⟨(hb.cell (by exact h1)).trans h.node, (hb.cell (by exact h2)).trans h.place, hl.below hw⟩
theorem AtMid.kept {w : World} {t : Tr} {i : Nat} {x e : Int} {X Y : World} {B : Nat} (h : AtMid w t i x e X) (hb : Below B X Y) (hB : w.heap.size + 4 ≤ B) (hl : Lies w t) : AtMid w t i x e Y :=
  have hw : Below w.heap.size w Y := h.old.trans (hb.mono (by omega))
  ⟨(hb.block _ (by omega)).trans h.num, (hb.block _ (by omega)).trans h.err, h.ok.below hb (by omega) (by omega) hl hw, hw⟩
theorem at_results (W : World) (b1 b2 : Nat) (x e : Int) (h1 : Boxed W b1 21 (.int .i32 x)) (h2 : Boxed W b2 38 (.int .i64 e)) (tmps : Array Value) (t1 : tmps.getD 4 undef = .pointer (some ⟨b1, 0, none⟩)) (t2 : tmps.getD 5 undef = .pointer (some ⟨b2, 0, none⟩)) :
    (results Try.f13 tmps).run Try.prog W = .ok (.tuple #[.int .i32 x, .int .i64 e]) W := by
  have c1 := h1.cell
  have c2 := h2.cell
  have t1' : tmps[4]?.getD undef = .pointer (some ⟨b1, 0, none⟩) := by simpa using t1
  have t2' : tmps[5]?.getD undef = .pointer (some ⟨b2, 0, none⟩) := by simpa using t2
  simp only [results, Try.results13]
  simp [go_sem, t1', t2', c1, c2]
theorem At_pos (b : Nat) (t : Tr) (i : Nat) (w : World) (h : IsRope w b t) (hs : t.size ≤ 4611686018427387904) :
    Calls Try.prog 13 #[.pointer (some ⟨b, 0, none⟩), .int .i64 (i : Int)] w fun e w' => e = .returned (.tuple #[.int .i32 (t.list.getD i 0), .int .i64 (if i < t.size then 0 else 4)]) ∧ Below w.heap.size w w' := by
  have HS := hide (fun w' (hk : KO w w') => stands_rope b t w' (h.below hk))
  have hlt := h.lt
  have c1 := h.top
  have k1 : ∀ w', KO w w' → w'.cell? ⟨b, 1, none⟩ = some (.pointer t.at) := fun w' hk => (Below.cell hk (by exact hlt)).trans c1
  have hi' : (0 : Int) ≤ (i : Int) := by omega
  have HL := hide h.lies
  obtain ⟨p, hp⟩ : ∃ p, t.at = p := ⟨_, rfl⟩
  rw [hp] at k1
  have HP := hide hp
  obtain ⟨V, hV⟩ : ∃ V, ((w.alloc (Obj.cells #[Value.int IntKind.i32 0] 21)).alloc (Obj.cells #[Value.int IntKind.i64 0] 38)) = V := ⟨_, rfl⟩
  have hkV : KO w V := by rw [← hV]; exact KO.alloc (KO.alloc (KO.refl _) _) _
  have cV := k1 V hkV
  have hVs : V.heap.size = w.heap.size + 2 := by rw [← hV]; simp
  have bN : Boxed V w.heap.size 21 (.int .i32 0) := by rw [← hV]; exact (Boxed.new w _ _).alloc _
  have bE : Boxed V (w.heap.size + 1) 38 (.int .i64 0) := by
    rw [← hV]; have := Boxed.new (w.alloc (Obj.cells #[Value.int IntKind.i32 0] 21)) 38 (.int .i64 0); rw [World.size_alloc] at this; exact this
  obtain ⟨er, her⟩ : ∃ er : Int, (if i < t.size then (0 : Int) else 4) = er := ⟨_, rfl⟩
  obtain ⟨x0, hx0⟩ : ∃ x0 : Int, t.list.getD i 0 = x0 := ⟨_, rfl⟩
  rw [her, hx0]
  have HER := hide her
  have HX0 := hide hx0
  clear her hx0
  have HV := hide hV
  have HKV := hide hkV
  have HVS := hide hVs
  have HBN := hide bN
  have HBE := hide bE
  clear h hlt c1 k1 hp hkV hVs bN bE
  refine (callsIn_wide (n := 3)).1 ?_
  refine callsIn_of_wp_marks Try.func13 rfl trivial ?_
  simp only [Try.ntmps13, List.size_toArray, List.length_cons, List.length_nil, Nat.reduceAdd, Nat.reduceSub, Array.replicate_succ, Array.replicate_zero, List.push_toArray, List.append_toArray, List.nil_append, List.cons_append]
  gi_wp2_with fail
  clear hV
  refine ⟨trivial, ?_⟩
  refine (callsIn_wide.2 (HS.out V HKV.out)).mono ?_
  rintro e w' ⟨rfl, rfl⟩
  gi_wp2_with fail
  refine ⟨trivial, ?_⟩
  refine (callsIn_wide.2 (from_any p (i : Int) V)).mono ?_
  rintro e w' ⟨rfl, rfl⟩
  gi_wp2_with fail
  obtain ⟨W0, hW0⟩ : ∃ W0, ((V.alloc (Obj.cells #[Value.pointer p] 35)).alloc (Obj.cells #[Value.int IntKind.i64 (i : Int)] 3)) = W0 := ⟨_, rfl⟩
  rw [hW0]
  have hVs := HVS.out
  have hW0s : W0.heap.size = w.heap.size + 4 := by rw [← hW0]; simp; omega
  have hbW : Below V.heap.size V W0 := by rw [← hW0]; exact ((Below.refl _ V).alloc (Nat.le_refl _) _).alloc (by simp) _
  have hold : Below w.heap.size w W0 := KO.on HKV.out hbW
  have h0 : AtMid w t i 0 0 W0 := by
    refine ⟨(hbW.block _ (by omega)).trans HBN.out, (hbW.block _ (by omega)).trans HBE.out, ⟨?_, ?_, HL.out.below hold⟩, hold⟩
    · rw [← hW0, ← hVs, HP.out]; exact ((Boxed.new V _ _).alloc _).cell
    · rw [← hW0]
      have := (Boxed.new (V.alloc (Obj.cells #[Value.pointer p] 35)) 3 (Value.int IntKind.i64 (i : Int))).cell
      rw [World.size_alloc, hVs] at this; exact this
  rw [hVs]
  clear hW0 hbW hold cV
  refine wpIn_range (ck := false) (gf := 56) (lb := #[.pointer (some ⟨w.heap.size + 2, 0, none⟩), .pointer (some ⟨w.heap.size + 2 + 1, 0, none⟩)]) rfl (enters_of Try.func56 (by kernel_rfl) rfl) (from1_seq t (w.heap.size + 2) (w.heap.size + 3) i hs false) (fun _ => rfl)
    (fun pre W => pre = [] ∧ AtMid w t i 0 0 W) (fun c pre W => c = .ret ∧ ∃ x, pre = [x] ∧ AtMid w t i x 0 W) (fun pre X ⟨_, h⟩ => h.ok) (fun pre X Y ⟨h1, h⟩ hc => ⟨h1, h.kept hc.below (by omega) HL.out⟩) (fun c pre X Y ⟨h1, x, h2, h⟩ hc => ⟨h1, x, h2, h.kept hc.below (by omega) HL.out⟩) ⟨rfl, h0⟩
    (fun x => { tmps := #[.pointer (some ⟨b, 0, none⟩), .int .i64 (i : Int), undef, undef, .pointer (some ⟨w.heap.size, 0, none⟩), .pointer (some ⟨w.heap.size + 1, 0, none⟩), .int .i32 x, .pointer (some ⟨b, 0, none⟩), .bool true, .bool false, .int .i64 (i : Int), .bool true, .pointer (some ⟨b, 0, none⟩), .pointer (some ⟨b, 0, none⟩), .pointer (some ⟨b, 1, none⟩), .pointer p, .int .i64 (i : Int), .func (.func 56) #[] #[.pointer (some ⟨w.heap.size + 2, 0, none⟩), .pointer (some ⟨w.heap.size + 2 + 1, 0, none⟩)], .int .i32 x, undef], defers := [] }) ?assign ?body ?done ?stop
  case assign =>
    intro m l x W K hK
    gi_wp2
    exact hK
  case body =>
    rintro m l pre x X ⟨rfl, hM⟩ hpre hXs
    have cn := hM.num.cell
    have fn := hM.num.frozen
    have ce := hM.err.cell
    have fe := hM.err.frozen
    have HM := hide hM
    have HS0 := hide hW0s
    generalize hQ : rPost _ _ _ _ X = Q
    have HQ := hide hQ
    clear hQ hM hpre hXs h0 hW0s hs hVs
    gi_wp2_with fail
    rw [← HQ.out]
    have hsz := HS0.out
    have hm := HM.out
    have hB : Below w.heap.size w ((X.setCell ⟨w.heap.size, 0, none⟩ (.int .i32 x)).setCell ⟨w.heap.size + 1, 0, none⟩ (.int .i64 0)) := (hm.old.setCell (by exact Nat.le_refl _) _).setCell (by show w.heap.size ≤ w.heap.size + 1; omega) _
    refine ⟨(Beyond.setCell X (by show w.heap.size < _; omega) _).trans (Beyond.setCell _ (by show w.heap.size + 1 < _; omega) _), rfl, x, rfl, ?_⟩
    refine ⟨(hm.num.set _).other (by omega) _, (hm.err.other (by omega) _).set _, ⟨?_, ?_, HL.out.below hB⟩, hB⟩
    · rw [World.cell?_setCell_other _ _ _ _ (by simp), World.cell?_setCell_other _ _ _ _ (by simp)]; exact hm.ok.node
    · rw [World.cell?_setCell_other _ _ _ _ (by simp), World.cell?_setCell_other _ _ _ _ (by simp)]; exact hm.ok.place
  case done =>
    rintro D W hD hWs ⟨hx, hM⟩ hK
    have hsz : t.size ≤ i := by
      have := List.drop_eq_nil_iff.1 hx
      exact this
    have cn := hM.num.cell
    have fn := hM.num.frozen
    have ce := hM.err.cell
    have fe := hM.err.frozen
    have HM := hide hM
    have HD := hide hD
    have HSZ := hide hsz
    have HS0 := hide hW0s
    clear hM hx hD hsz hWs h0 hW0s hs hVs
    gi_wp2_with fail
    have hK2 : ((W.setCell ⟨w.heap.size, 0, none⟩ (.int .i32 0)).setCell ⟨w.heap.size + 1, 0, none⟩ (.int .i64 4)).heap[D]? = some (.deferred (some [])) := by
      have := HD.out; have := HS0.out
      rw [Below.heap_setCell _ _ _ _ (by show D ≠ w.heap.size + 1; omega), Below.heap_setCell _ _ _ _ (by show D ≠ w.heap.size; omega)]; exact hK
    refine ⟨by simp, .inl ⟨_, _, rfl, run_takeDeferred hK2, ?_⟩⟩
    have hm := HM.out
    have hDD : w.heap.size + 4 ≤ D := by have := HD.out; have := HS0.out; omega
    have b1 : Boxed (((W.setCell ⟨w.heap.size, 0, none⟩ (.int .i32 0)).setCell ⟨w.heap.size + 1, 0, none⟩ (.int .i64 4)).putObj D (.deferred none)) w.heap.size 21 (.int .i32 0) := (World.putObj_heap_other (by omega)).trans ((hm.num.set _).other (by omega) _)
    have b2 : Boxed (((W.setCell ⟨w.heap.size, 0, none⟩ (.int .i32 0)).setCell ⟨w.heap.size + 1, 0, none⟩ (.int .i64 4)).putObj D (.deferred none)) (w.heap.size + 1) 38 (.int .i64 4) := (World.putObj_heap_other (by omega)).trans ((hm.err.other (by omega) _).set _)
    refine ⟨_, at_results _ _ _ _ _ b1 b2 _ (by rfl) (by rfl), ?_, ?_⟩
    · have e1 := HER.out
      have e2 := HX0.out
      rw [if_neg (by have := HSZ.out; omega)] at e1
      have e3 : t.list.getD i 0 = 0 := by simp [List.getD, List.getElem?_eq_none (show t.list.length ≤ i from HSZ.out)]
      rw [← e1, ← e2, e3]
    · exact ((hm.old.setCell (by exact Nat.le_refl _) _).setCell (by show w.heap.size ≤ w.heap.size + 1; omega) _).trans (below_put (by omega) _)
  case stop =>
    rintro D c pre W hD hWs hpre ⟨rfl, x, rfl, hM⟩ hK
    have HM := hide hM
    have HD := hide hD
    have HS0 := hide hW0s
    have HPRE := hide hpre
    clear hM hpre hD hWs h0 hW0s hs hVs
    gi_wp2_with fail
    refine ⟨by simp, .inl ⟨_, _, rfl, run_takeDeferred hK, ?_⟩⟩
    have hm := HM.out
    have hDD : w.heap.size + 4 ≤ D := by have := HD.out; have := HS0.out; omega
    have b1 : Boxed (W.putObj D (.deferred none)) w.heap.size 21 (.int .i32 x) := (World.putObj_heap_other (by omega)).trans hm.num
    have b2 : Boxed (W.putObj D (.deferred none)) (w.heap.size + 1) 38 (.int .i64 0) := (World.putObj_heap_other (by omega)).trans hm.err
    refine ⟨_, at_results _ _ _ _ _ b1 b2 _ (by rfl) (by rfl), ?_, hm.old.trans (below_put (by omega) _)⟩
    have e1 := HER.out
    have e2 := HX0.out
    have hx : (t.list.drop i)[0]? = some x := by
      obtain ⟨r, hr⟩ := HPRE.out
      rw [← hr]; rfl
    rw [List.getElem?_drop, Nat.add_zero] at hx
    have hlt : i < t.size := (List.getElem?_eq_some_iff.1 hx).1
    rw [if_pos hlt] at e1
    have e3 : t.list.getD i 0 = x := by simp [List.getD, hx]
    rw [← e1, ← e2, e3]
end Go.Proofs.Yteiljaecaahonaa
