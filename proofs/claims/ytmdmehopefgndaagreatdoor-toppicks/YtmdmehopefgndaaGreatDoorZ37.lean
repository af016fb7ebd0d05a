import Derived.Test.YtmdmehopefgndaaGreatDoorZ28
import Derived.Test.YtmdmehopefgndaaGreatDoorZ36
import Derived.Test.YtmdmehopefgndaaGreatDoorZ35
import Derived.Test.YtmdmehopefgndaaGreatDoorZ32
import Derived.Test.YtmdmehopefgndaaGreatDoorZ03
import Derived.Test.YtmdmehopefgndaaGreatDoorZ04
/- Rows of any values of one cell each: what base/Args and base/Copy say of integers. -/
namespace Go.Proofs.YtmdmehopefgndaaGreatDoor
open Go.RowKit
set_option linter.unusedVariables false
section
variable {α : Type} {f : α → Value} {d : α}
/-- A slice that holds these values. -/
structure VR (f : α → Value) (d : α) (w : World) (ao : Option Addr) (n cap : Nat) (zs : List α) : Prop where
  len : zs.length = n
  le : n ≤ cap
  max : cap ≤ maxLen
  cells : 0 < n → ∃ b off, ao = some ⟨b, off, none⟩ ∧ b < w.heap.size ∧ ∀ i, i < zs.length → w.cell? ⟨b, off + i, none⟩ = some (f (zs.getD i d))
  nil : ao = none → cap = 0
theorem VR.below {w w' : World} {ao : Option Addr} {n cap : Nat} {zs : List α} (h : VR f d w ao n cap zs) (hb : Below w.heap.size w w') : VR f d w' ao n cap zs :=
  ⟨h.len, h.le, h.max, fun h0 => by
    obtain ⟨b, off, e1, e2, e3⟩ := h.cells h0
    exact ⟨b, off, e1, Nat.lt_of_lt_of_le e2 hb.size, fun i hi => (hb.cell (by exact e2)).trans (e3 i hi)⟩, h.nil⟩
theorem VR.of_owns {w : World} {base e n : Nat} {v : Value} {zs : List α} (h : w.ownsRow base e 1 v n (zs.map f)) : ∃ ao cap, v = .slice ao n cap ∧ VR f d w ao n cap zs := by
  have hl : zs.length = n := by have := h.1; simpa using this
  rcases h.2 with ⟨rfl, rfl⟩ | ⟨g, cap, cur, rfl, hb, hg, hn, hc, hs, ht⟩
  · exact ⟨none, 0, rfl, hl, Nat.le_refl _, Nat.zero_le _, fun h0 => by omega, fun _ => rfl⟩
  · refine ⟨_, cap, rfl, hl, hn, hc, fun h0 => ⟨g, 0, rfl, (Array.getElem?_eq_some_iff.1 hg).1, fun i hi => ?_⟩, fun h => by cases h⟩
    rw [Nat.zero_add, h.cellAt i (by omega)]
    rw [List.getElem?_map, List.getElem?_eq_getElem hi]
    simp [List.getD, List.getElem?_eq_getElem hi]
theorem VR.lit (w : World) (zs : List α) (e : TypeId) (hm : zs.length ≤ maxLen) : VR f d (w.alloc (.cells (zs.map f).toArray e)) (some ⟨w.heap.size, 0, none⟩) zs.length zs.length zs :=
  ⟨rfl, Nat.le_refl _, hm, fun _ => ⟨_, _, rfl, by simp, fun i hi => by
    rw [Nat.zero_add, World.cell?_alloc_mark]
    simp [List.getD, List.getElem?_eq_getElem hi]⟩, fun h => by cases h⟩
theorem VR.none_ (w : World) : VR f d w none 0 0 [] := ⟨rfl, Nat.le_refl _, Nat.zero_le _, fun h => by omega, fun _ => rfl⟩
theorem VR.news {w : World} {ad : Addr} {m c : Nat} {zs : List α} (hrow : VR f d w (some ad) m c zs) : ∀ j u, (zs.map f)[j]? = some u → w.cell? (ad.add j) = some u := by
  intro j u hj
  have hjl : j < zs.length := by
    have := (List.getElem?_eq_some_iff.1 hj).1
    simpa using this
  have hl := hrow.len
  obtain ⟨b, off, e1, _, hc⟩ := hrow.cells (by omega)
  simp only [Option.some.injEq] at e1
  subst e1
  have hadd : (⟨b, off, none⟩ : Addr).add j = ⟨b, off + j, none⟩ := by unfold Addr.add; split <;> simp_all
  rw [hadd, hc j hjl]
  rw [List.getElem?_map, List.getElem?_eq_getElem hjl] at hj
  simp only [Option.map_some, Option.some.injEq] at hj
  rw [← hj]
  simp [List.getD, List.getElem?_eq_getElem hjl]
/-- A value stored into a row of the call's own; what stands at a place of one. -/
theorem vown_set {w : World} {base e n cap g : Nat} {zs : List α} (h : w.ownsRow base e 1 (.slice (some ⟨g, 0, none⟩) n cap) n (zs.map f)) (j : Nat) (y : α) :
    (w.setCell ⟨g, j, none⟩ (f y)).ownsRow base e 1 (.slice (some ⟨g, 0, none⟩) n cap) n ((zs.set j y).map f) := by
  have := (h.stored j (f y)).1
  rw [List.map_set]
  exact this
theorem vown_cell {w : World} {base e n cap g : Nat} {zs : List α} (h : w.ownsRow base e 1 (.slice (some ⟨g, 0, none⟩) n cap) n (zs.map f)) (j : Nat) (hj : j < n) : w.cell? ⟨g, j, none⟩ = some (f (zs.getD j d)) := by
  have hl : zs.length = n := by have := h.1; simpa using this
  rw [h.cellAt j (by omega), List.getElem?_map, List.getElem?_eq_getElem (by omega)]
  simp [List.getD, List.getElem?_eq_getElem (show j < zs.length by omega)]
theorem one_all (hf : ∀ x, (f x).oneCell' = true) (zs : List α) : ∀ u ∈ zs.map f, u.oneCell' = true := by
  intro u hu
  obtain ⟨x, _, rfl⟩ := List.mem_map.1 hu
  exact hf x
/-- An append of such a row to one that the call owns. -/
theorem wp_append_vrow {P : Program} (w : World) {o : Oper} {a : Act} {K : Act → World → Prop} {Q : Exit → Act → World → Prop} (hf : ∀ x, (f x).oneCell' = true) (s x : Operand) (t : TypeId)
    (ho : o.op = .call { callee := .builtin .append, args := #[s, x], argTypes := #[t, t] })
    (base : Nat) (e : TypeId) (i : TypeInfo) (z : Value) (bytes : Nat) (ht : P.underlying t = some (.slice e)) (hi : P.info? e = some i) (hz : i.zero = some z)
    (hsize : i.size = 1) (hby : i.bytes = bytes) (hzs : z.cells.size = 1)
    (v : Value) (n : Nat) (xs : List Value) (hs : a.eval s = v) (hown : w.ownsRow base e 1 v n xs)
    (ad : Addr) (m c : Nat) (zs : List α) (hx : a.eval x = .slice (some ad) m c) (hrow : VR f d w (some ad) m c zs)
    (hbytes : (n + m) * bytes ≤ 140737488355328) (hb1 : 1 ≤ bytes) (hbase : base ≤ w.heap.size)
    (h : ∀ v' w', w'.ownsRow base e 1 v' (n + m) (xs ++ zs.map f) → Below base w w' → K (a.put o.dst v') w') : o.wp P a w K Q := by
  have h63 : n + m ≤ maxLen := by
    have : (n + m) * 1 ≤ (n + m) * bytes := Nat.mul_le_mul_left _ hb1
    unfold maxLen; omega
  have hbel : ∀ w', w.grownBy w' v.ownBlock → Below base w w' := fun w' hg => (Below.refl base w).grown hg hbase (fun j hj => (hown.lt j hj).1)
  exact wp_append_own w s x t ho base e i z 1 bytes ht hi hz hsize hby hzs (by decide) v n xs hs hown ad m c (zs.map f) hx (by simp [hrow.len]) hrow.news (one_all hf zs) h63 hbytes hbase (fun v' w' h1 h2 _ => h v' w' h1 (hbel w' h2))
theorem wpList_append_vrow {P : Program} (w : World) {ops : Array Oper} {rest : List Oper} {o : Oper} {a : Act} {Q : Exit → Act → World → Prop} (hf : ∀ x, (f x).oneCell' = true) (hw : Region.wanted o (yielded ops a.tmps) = true) (s x : Operand) (t : TypeId)
    (ho : o.op = .call { callee := .builtin .append, args := #[s, x], argTypes := #[t, t] })
    (base : Nat) (e : TypeId) (i : TypeInfo) (z : Value) (bytes : Nat) (ht : P.underlying t = some (.slice e)) (hi : P.info? e = some i) (hz : i.zero = some z)
    (hsize : i.size = 1) (hby : i.bytes = bytes) (hzs : z.cells.size = 1)
    (v : Value) (n : Nat) (xs : List Value) (hs : a.eval s = v) (hown : w.ownsRow base e 1 v n xs)
    (ad : Addr) (m c : Nat) (zs : List α) (hx : a.eval x = .slice (some ad) m c) (hrow : VR f d w (some ad) m c zs)
    (hbytes : (n + m) * bytes ≤ 140737488355328) (hb1 : 1 ≤ bytes) (hbase : base ≤ w.heap.size)
    (h : ∀ v' w', w'.ownsRow base e 1 v' (n + m) (xs ++ zs.map f) → Below base w w' → wpList P ops Q rest (a.put o.dst v') w') : wpList P ops Q (o :: rest) a w :=
  BigFrame.wpList_want hw fun K hK => wp_append_vrow w hf s x t ho base e i z bytes ht hi hz hsize hby hzs v n xs hs hown ad m c zs hx hrow hbytes hb1 hbase fun v' w' h1 h2 => hK _ _ (h v' w' h1 h2)
theorem step_append_vrow {P : Program} (w : World) {ops : Array Oper} {o : Oper} {a : Act} {K : Act → World → Prop} {Q : Exit → Act → World → Prop} {E : Prop} (hf : ∀ x, (f x).oneCell' = true) (hgd : o.guard = none) (s x : Operand) (t : TypeId)
    (ho : o.op = .call { callee := .builtin .append, args := #[s, x], argTypes := #[t, t] })
    (base : Nat) (e : TypeId) (i : TypeInfo) (z : Value) (bytes : Nat) (ht : P.underlying t = some (.slice e)) (hi : P.info? e = some i) (hz : i.zero = some z)
    (hsize : i.size = 1) (hby : i.bytes = bytes) (hzs : z.cells.size = 1)
    (v : Value) (n : Nat) (xs : List Value) (hs : a.eval s = v) (hown : w.ownsRow base e 1 v n xs)
    (ad : Addr) (m c : Nat) (zs : List α) (hx : a.eval x = .slice (some ad) m c) (hrow : VR f d w (some ad) m c zs)
    (hbytes : (n + m) * bytes ≤ 140737488355328) (hb1 : 1 ≤ bytes) (hbase : base ≤ w.heap.size)
    (h : ∀ v' w', w'.ownsRow base e 1 v' (n + m) (xs ++ zs.map f) → Below base w w' → K (a.put o.dst v') w') :
    if Region.wanted o (yielded ops a.tmps) = true then Oper.wp P o a w K Q else E := by
  have hw : Region.wanted o (yielded ops a.tmps) = true := by simp [Region.wanted, hgd]
  rw [if_pos hw]
  exact wp_append_vrow w hf s x t ho base e i z bytes ht hi hz hsize hby hzs v n xs hs hown ad m c zs hx hrow hbytes hb1 hbase h
end
/-- Complex numbers whose parts are whole. -/
def cv (fb : Int → Nat) (p : Int × Int) : Value := .complex .f64 (fb p.1) (fb p.2)
theorem cv_one (fb : Int → Nat) (p : Int × Int) : (cv fb p).oneCell' = true := rfl
end Go.Proofs.YtmdmehopefgndaaGreatDoor

/- Rows of bools that a call makes and fills; columns that are marked run by run. -/
namespace Go.Proofs.YtmdmehopefgndaaGreatDoor
open Go.RowKit
set_option linter.unusedVariables false
set_option maxRecDepth 100000
namespace Pk
/-- A row of n bools. -/
def BL (n : Nat) (g : Nat → Bool) : List Bool := (List.range n).map g
theorem BL_len (n : Nat) (g : Nat → Bool) : (BL n g).length = n := by simp [BL]
theorem BL_at {n : Nat} {g : Nat → Bool} {j : Nat} (h : j < n) : (BL n g).getD j false = g j := by simp [BL, List.getD, h]
theorem BL_same {n : Nat} {g h : Nat → Bool} (e : ∀ j, j < n → g j = h j) : BL n g = BL n h := List.map_congr_left fun j hj => e j (List.mem_range.1 hj)
/-- Marked behind i runs, and the columns up to k of the next one. -/
def bm (P : List (Nat × Nat)) (i k j : Nat) : Bool := decide (cn P i j ≠ 0 ∨ ((P.getD i (0, 0)).1 ≤ j ∧ j < k))
/-- Marked behind i runs. -/
def br (P : List (Nat × Nat)) (i j : Nat) : Bool := decide (cn P i j ≠ 0)
section
variable {P : List (Nat × Nat)} {n i k : Nat}
theorem br_zero : BL n (br P 0) = List.replicate n false := by
  refine List.ext_getElem (by simp [BL]) fun j h1 h2 => ?_
  simp [BL, br, cn]
theorem bm_begin : BL n (bm P i (P.getD i (0, 0)).1) = BL n (br P i) := BL_same fun j _ => by
  unfold bm br
  rw [Bool.eq_iff_iff, decide_eq_true_iff, decide_eq_true_iff]
  omega
theorem bm_at (hk : k < n) : (BL n (bm P i k)).getD k false = br P i k := by
  rw [BL_at hk]
  unfold bm br
  rw [Bool.eq_iff_iff, decide_eq_true_iff, decide_eq_true_iff]
  omega
theorem bm_set (hk : k < n) (h1 : (P.getD i (0, 0)).1 ≤ k) : (BL n (bm P i k)).set k true = BL n (bm P i (k + 1)) := by
  refine List.ext_getElem (by simp [BL]) fun j h2 h3 => ?_
  have hj : j < n := by simpa [BL] using h3
  rw [List.getElem_set]
  simp only [BL, List.getElem_map, List.getElem_range]
  unfold bm
  by_cases e : k = j
  · subst e
    rw [if_pos rfl, decide_eq_true (.inr ⟨h1, by omega⟩)]
  · rw [if_neg e, Bool.eq_iff_iff, decide_eq_true_iff, decide_eq_true_iff]
    omega
theorem bm_end : BL n (bm P i (P.getD i (0, 0)).2) = BL n (br P (i + 1)) := BL_same fun j _ => by
  unfold bm br
  rw [Bool.eq_iff_iff, decide_eq_true_iff, decide_eq_true_iff, cn]
  by_cases h : (P.getD i (0, 0)).1 ≤ j ∧ j < (P.getD i (0, 0)).2
  · rw [if_pos h]; omega
  · rw [if_neg h]; omega
end
theorem br_all {q : Nat → Bool} {m j : Nat} (hj : j < m) : br (RU q m) (RU q m).length j = q j := by
  unfold br
  rw [cn_all]
  cases h : q j with
  | true => rw [if_pos ⟨hj, rfl⟩]; rfl
  | false => rw [if_neg (fun g => by cases g.2)]; rfl
theorem br_ahead {q : Nat → Bool} {m i j : Nat} (hi : i < (RU q m).length) (h : ((RU q m).getD i (0, 0)).1 ≤ j) : br (RU q m) i j = false := by
  unfold br
  rw [cn_ahead hi h]; rfl
end Pk
/-- A row of bools at the first new block. -/
structure BB16 (e : TypeId) (w : World) (n : Nat) (bs : List Bool) (wr : World) : Prop where
  own : wr.ownsRow w.heap.size e 1 (.slice (some ⟨w.heap.size, 0, none⟩) n n) n (bs.map Value.bool)
  bel : Below w.heap.size w wr
section
variable {e : TypeId} {w wr : World} {n : Nat} {bs : List Bool}
theorem BB16.set (h : BB16 e w n bs wr) (j : Nat) (y : Bool) : BB16 e w n (bs.set j y) (wr.setCell ⟨w.heap.size, j, none⟩ (.bool y)) :=
  ⟨vown_set h.own j y, h.bel.setCell (p := ⟨w.heap.size, j, none⟩) (Nat.le_refl _) _⟩
theorem BB16.keep (h : BB16 e w n bs wr) {w2 : World} (hb : KO wr w2) : BB16 e w n bs w2 := ⟨owns_below h.own hb, KO.on h.bel hb⟩
theorem BB16.cell (h : BB16 e w n bs wr) {j : Nat} (hj : j < n) : wr.cell? ⟨w.heap.size, j, none⟩ = some (.bool (bs.getD j false)) := vown_cell h.own j hj
theorem BB16.fz (h : BB16 e w n bs wr) (j : Nat) : wr.frozen? ⟨w.heap.size, j, none⟩ = false := h.own.frozenAt j
theorem BB16.eq (h : BB16 e w n bs wr) {cs : List Bool} (hc : bs = cs) : BB16 e w n cs wr := by rw [← hc]; exact h
end
theorem cell_of_blk16 {W : World} {g : Nat} {vs : Array Value} {t : TypeId} (h : W.heap[g]? = some (.cells vs t (0, 0))) (j : Nat) : W.cell? ⟨g, j, none⟩ = vs[j]? := by
  simp [World.cell?, h]
theorem blk_set16 {W : World} {g : Nat} {o : Obj} (h : W.heap[g]? = some o) {p : Addr} (hp : g ≠ p.block) (v : Value) : (W.setCell p v).heap[g]? = some o := (Below.heap_setCell W p v g hp).trans h
theorem infoBool : (Tryz.prog.info? 4).map (fun i => (i.zero, i.size, i.bytes)) = some (some (.bool false), 1, 1) := by kernel_rfl
end Go.Proofs.YtmdmehopefgndaaGreatDoor

/- TopPicks: what is picked of a text that is shown, from the bytes on. -/
namespace Go.Proofs.YtmdmehopefgndaaGreatDoor
open Go.RowKit
set_option linter.unusedVariables false
set_option maxHeartbeats 9000000
set_option maxRecDepth 100000
theorem scalar_wf16 {x : Int} (h : Utf.size x ≠ 0) : (Lit.int .i32 x).wf = true := by
  have := Utf.size_cases x
  exact WalkArith.wf_i32 (by omega)
theorem ex16t : PRA [0] 0 1 [(0, 1)] 0 := .inl ⟨by decide, by decide, by decide +kernel, rfl⟩
theorem TopPicks_walk (w : World) (hm : Marks w) (a0 : Option Addr) (n0 c0 : Nat) (b : List Int) (h0 : Row .u8 w a0 n0 c0 b) (f0 : ∀ x ∈ b, (Lit.int .u8 x).wf = true) (b0 : n0 * 1 ≤ 140737488351232) (from0 : Int) (hfr : (Lit.int .i64 from0).wf = true) (to0 : Int) (hto : (Lit.int .i64 to0).wf = true) :
    Calls Tryz.prog 3 #[.slice a0 n0 c0, .int .i64 from0, .int .i64 to0] w fun e w' => e = .returned (.bool true) ∧ Below w.heap.size w w' := by
  have hby := Bytes.of_wf f0
  by_cases hbig : 300 < n0
  · have hb1 : (300 : Int) < (n0 : Int) := by omega
    clear hm h0 f0 hby
    go_enter Tryz.func3, Tryz.ntmps3
    go_wp2
    go_ret
    exact ⟨rfl, Below.refl _ _⟩
  have hb1 : ¬ (300 : Int) < (n0 : Int) := by omega
  have hdl := Utf.dec_le b.length b (Nat.le_refl _)
  rw [h0.len] at hdl
  have hka : KO w (w.alloc (.cells #[.int .i64 0] 3)) := KO.alloc (KO.refl _) _
  have HR1 := hide (pruns_any _ 1 1 [0] 0 1 _ (row_lit .i64 w [0] 3 (by simp [maxLen])) (by omega) _ _ ex16t)
  simp only [List.length_cons, List.length_nil] at HR1
  have KA := hide hka
  clear hka
  by_cases hw : (Utf.dec b).2 = n0
  · obtain ⟨D, hD⟩ : ∃ D, (Utf.dec b).1 = D := ⟨_, rfl⟩
    have hed := Utf.enc_dec b.length b (Nat.le_refl _) hby
    rw [hD] at hed hdl
    have hsc := hed.2
    have hfull : Utf.enc D = b := by rw [hed.1, hw]; exact List.take_of_length_le (by rw [h0.len]; exact Nat.le_refl _)
    have hDw : ∀ x ∈ D, (Lit.int .i32 x).wf = true := fun x hx => scalar_wf16 (hsc x hx)
    have HDC := hide (fun (W : World) (hk : KO w W) => decode_yes a0 n0 c0 b W (h0.below hk) hby hw (by omega))
    rw [hD] at HDC
    obtain ⟨nD, hnD⟩ : ∃ nD, D.length = nD := ⟨_, rfl⟩
    rw [hnD] at hdl HDC
    have HEN := hide (fun (a : Option Addr) (c : Nat) (W : World) (hr : Row .i32 W a nD c D) => encode_ok a nD c D W hr (by omega) hsc)
    rw [hfull, h0.len] at HEN
    have HST := hide (fun (a : Option Addr) (c : Nat) (W : World) (hr : Row .u8 W a n0 c b) => run_str W a n0 c b hr hby)
    obtain ⟨m, X, S, E, hTA⟩ := TA_some D (-1)
    have HLN := hide (fun (a : Option Addr) (c : Nat) (W : World) (hr : Row .i32 W a nD c D) (hk : KO w W) => tline_any a nD c D (-1) W hr hDw (hm.below hk) (by omega) m X S E hTA)
    have H0 := hide h0
    by_cases hE : E = 0
    · subst hE
      obtain ⟨hXl, hXf, hSH⟩ := TA_show hTA
      have hXn : X.length = nD := by rw [hXl, hnD]
      have hSeq : S = Mi.SW D X := by
        rcases hSH with ⟨_, _, hS, _⟩ | ⟨_, _, h0⟩
        · exact hS
        · cases h0
      obtain ⟨nS, hnS⟩ : ∃ nS, S.length = nS := ⟨_, rfl⟩
      have hOD : (Od.OD X).length = nS := by rw [← hnS, hSeq, Mi.SW_len]
      have hSl : nS ≤ nD := by
        have := Od.K_le X
        rw [← hOD, Od.OD_len]
        omega
      have HS := hide (fun (a ax : Option Addr) (c cx : Nat) (W : World) (hr : Row .i32 W a nD c D) (hx : Row .i64 W ax nD cx X) (hk : KO w W) => show_any a ax nD nD c cx D X W hr hx hDw (by omega) (by omega) nD (by have := RR_le X; omega) (by omega) (hm.below hk) S 0 hSH)
      have HO := hide (fun (ax : Option Addr) (cx : Nat) (W : World) (hx : Row .i64 W ax nD cx X) => order_any ax nD cx X W hx (by omega) (Od.ON X) 0 (.inl ⟨hXf, rfl, rfl⟩))
      obtain ⟨ki, hki, ei'⟩ := place_at from0 (nD + 1) (by omega) (by omega)
      obtain ⟨kj, hkj, ej'⟩ := place_at to0 (nD + 1) (by omega) (by omega)
      have ei : wrap64 ((IntKind.u64.wrap from0).tmod ((nD : Int) + 1)) = (ki : Int) := by
        rw [show ((nD + 1 : Nat) : Int) = (nD : Int) + 1 from by omega] at ei'; exact ei'
      have ej : wrap64 ((IntKind.u64.wrap to0).tmod ((nD : Int) + 1)) = (kj : Int) := by
        rw [show ((nD + 1 : Nat) : Int) = (nD : Int) + 1 from by omega] at ej'; exact ej'
      clear ei' ej'
      obtain ⟨f, hf⟩ : ∃ f : Nat, (if kj < ki then kj else ki) = f := ⟨_, rfl⟩
      obtain ⟨t, ht⟩ : ∃ t : Nat, (if kj > ki then kj else ki) = t := ⟨_, rfl⟩
      have hft : f ≤ t ∧ t ≤ nD := by subst hf ht; split <;> split <;> omega
      have hmn : ∀ (w' : World) (ts : Array TypeId) (ty : TypeId), (Builtin.min_ ts ty #[.int .i64 (ki : Int), .int .i64 (kj : Int)]).run Tryz.prog w' = .ok (.int .i64 (f : Int)) w' := fun w' ts ty => by
        have e : (if (kj : Int) < (ki : Int) then (kj : Int) else (ki : Int)) = (f : Int) := by rw [← hf]; split <;> split <;> omega
        rw [run_min_int2]
        exact congrArg (fun v => Result.ok (Value.int .i64 v) w') e
      have hmx : ∀ (w' : World) (ts : Array TypeId) (ty : TypeId), (Builtin.max_ ts ty #[.int .i64 (ki : Int), .int .i64 (kj : Int)]).run Tryz.prog w' = .ok (.int .i64 (t : Int)) w' := fun w' ts ty => by
        have e : (if (kj : Int) > (ki : Int) then (kj : Int) else (ki : Int)) = (t : Int) := by rw [← ht]; split <;> split <;> omega
        rw [run_max_int2]
        exact congrArg (fun v => Result.ok (Value.int .i64 v) w') e
      clear hf ht
      obtain ⟨R, hR⟩ : ∃ R, Pk.RU (Pk.qc (Od.ON X) f t) (Od.ON X).length = R := ⟨_, rfl⟩
      have hRA : PRA X f t R 0 := .inl ⟨hXf, ⟨by omega, by rw [hXn]; omega, by omega⟩, hR.symm, rfl⟩
      have HRN := hide (fun (ax : Option Addr) (cx : Nat) (W : World) (hx : Row .i64 W ax nD cx X) => pruns_any ax nD cx X f t W hx (by omega) R 0 hRA)
      obtain ⟨NR, hNR⟩ : ∃ NR, R.length = NR := ⟨_, rfl⟩
      have hLl : (Od.ON X).length = nS := by rw [Od.ON_len, hOD]
      have HCOL : Hid (∀ k, k < nS → ∃ p : Nat, p < nD ∧ (Od.ON X).getD k 0 = (p : Int) ∧ S.getD k 0 = Mi.gl (D.getD p 0) (X.getD p 0)) := hide (fun k hk => by
        have hk2 : k < (Od.OD X).length := by rw [hOD]; exact hk
        refine ⟨(Od.OD X).getD k 0, ?_, Od.ON_at hk2, ?_⟩
        · have := Od.OD_lt hXf (Od.OD_in hk2); omega
        · rw [hSeq, Mi.SW_at hk2])
      have HBR : Hid (∀ k, k < nS → Pk.br R NR k = decide ((f : Int) ≤ (Od.ON X).getD k 0 ∧ (Od.ON X).getD k 0 < (t : Int))) := hide (fun k hk => by
        rw [← hNR, ← hR, Pk.br_all (by rw [hLl]; exact hk)]; rfl)
      have HRU : Hid (∀ r, r < NR → (R.getD r (0, 0)).1 < (R.getD r (0, 0)).2 ∧ (R.getD r (0, 0)).2 ≤ nS) := hide (fun r hr => by
        rw [← hNR, ← hR] at hr
        have := Pk.RU_run (Pk.RU_at hr)
        rw [hR] at this
        exact ⟨this.1, by rw [← hLl]; exact this.2.1⟩)
      have HAH : Hid (∀ r k, r < NR → (R.getD r (0, 0)).1 ≤ k → Pk.br R r k = false) := hide (fun r k hr hk => by
        rw [← hNR, ← hR] at hr
        rw [← hR] at hk ⊢
        exact Pk.br_ahead hr hk)
      have HGL := hide (fun (p : Nat) (hp : p < nD) (W : World) (hk : KO w W) => glyph_any (D.getD p 0) (X.getD p 0) W (hDw _ (by simp [List.getD, show p < D.length by omega])) (hm.below hk))
      have HnD := hide hnD
      have HXn := hide hXn
      have HnS := hide hnS
      have HLl := hide hLl
      rw [hXn] at HLN
      rw [hnS] at HS
      rw [hLl] at HO
      rw [hNR] at HRN
      obtain ⟨L, hL⟩ : ∃ L, Od.ON X = L := ⟨_, rfl⟩
      rw [hL] at HO HCOL HBR HLl
      obtain ⟨ii, hii, hy0, hy1, hy2⟩ := info_parts infoBool
      have HII : Hid (Tryz.prog.info? 4 = some ii) := hii
      have HY0 := hide hy0
      have HY1 := hide hy1
      have HY2 := hide hy2
      clear hm h0 f0 hby hw hD hsc hDw hnD hTA hXl hXf hSH hXn hSeq hnS hOD hR hRA hNR hLl hL hed hfull hii hy0 hy1 hy2
      go_enter Tryz.func3, Tryz.ntmps3
      go_wp2_with fail
      refine HR1.out.mono ?_
      rintro e wa ⟨aa, ca, rfl, _, hka⟩
      have KB := hide (KO.on KA.out hka)
      have HDC1 := hide (HDC.out wa (KO.on KA.out hka))
      clear hka HR1 HDC
      go_wp2_with fail
      refine HDC1.out.mono ?_
      rintro e w1 ⟨v1, rfl, ho1, hk1⟩
      obtain ⟨a1, c1, rfl, hr1⟩ := row_of_owns ho1
      have K1 := hide (show KO w w1 from KO.on KB.out hk1)
      have R1 := hide hr1
      have HEN1 := hide (HEN.out a1 c1 w1 hr1)
      clear ho1 hk1 hr1 HDC1 HEN
      go_wp2_with fail
      refine HEN1.out.mono ?_
      rintro e w2 ⟨v2, rfl, ho2, hk2⟩
      obtain ⟨a2, c2, rfl, hr2⟩ := row_of_owns ho2
      have K2 := hide (show KO w w2 from KO.on K1.out hk2)
      have R2 := hide (R1.out.below hk2)
      have q1 := HST.out _ _ _ hr2
      have q2 := HST.out _ _ _ (H0.out.below K2.out)
      have HLN1 := hide (HLN.out a1 c1 w2 R2.out K2.out)
      clear ho2 hk2 hr2 HEN1 HLN R1
      generalize str b = sB at *
      go_wp2_with fail
      refine HLN1.out.mono ?_
      rintro e w3 ⟨a3, c3, rfl, hx3, hk3⟩
      have K3 := hide (KO.on K2.out hk3)
      have R3 := hide (R2.out.below hk3)
      have X3 := hide hx3
      have HRN3 := hide (HRN.out a3 c3 w3 hx3)
      clear hx3 hk3 HLN1 R2 HRN q1 q2
      go_wp2_with fail
      refine HRN3.out.mono ?_
      rintro e w4 ⟨a4, c4, rfl, hp4, hk4⟩
      have K4 := hide (KO.on K3.out hk4)
      have R4 := hide (R3.out.below hk4)
      have X4 := hide (X3.out.below hk4)
      have P4 := hide hp4
      have HS4 := hide (HS.out a1 a3 c1 c3 w4 R4.out X4.out K4.out)
      clear hp4 hk4 HRN3 R3 X3 HS
      go_wp2_with fail
      refine HS4.out.mono ?_
      rintro e w5 ⟨a5, c5, rfl, hs5, hk5⟩
      have K5 := hide (KO.on K4.out hk5)
      have R5 := hide (R4.out.below hk5)
      have X5 := hide (X4.out.below hk5)
      have P5 := hide (P4.out.below hk5)
      have S5 := hide hs5
      have HO5 := hide (HO.out a3 c3 w5 X5.out)
      clear hs5 hk5 HS4 R4 X4 P4 HO
      go_wp2_with fail
      refine HO5.out.mono ?_
      rintro e w6 ⟨a6, c6, rfl, hl6, hk6⟩
      have K6 := hide (KO.on K5.out hk6)
      have R6 := hide (R5.out.below hk6)
      have X6 := hide (X5.out.below hk6)
      have P6 := hide (P5.out.below hk6)
      have S6 := hide (S5.out.below hk6)
      have L6 := hide hl6
      have lp := P6.out.le
      have mp := P6.out.max
      unfold maxLen at mp
      have hSS : ((nS : Int) != (nS : Int)) = false := by simp
      clear hl6 hk6 HO5 R5 X5 P5 S5
      go_wp2_with (at_make; refine wpList_make_full _ rfl _ _ 40 rfl w6.heap.size 4 ii (.bool false) 1 Tryz.underlying40 HII.out HY0.out HY1.out _ _ _ _ nS rfl rfl rfl rfl ?b2 ?b3 (Nat.le_refl _) ?_)
      case b2 => rw [HY2.out]; omega
      case b3 => unfold maxLen; omega
      intro w7 hown hgrow
      have hbel := (Below.refl w6.heap.size w6).grown hgrow (Nat.le_refl _) (fun _ h => by cases h)
      have HM7 : Hid (BB16 4 w6 nS (Pk.BL nS (Pk.br R 0)) w7) := hide ⟨by
        have e2 : (madeCells #[Value.bool false] nS).toList = (Pk.BL nS (Pk.br R 0)).map Value.bool := by
          rw [Pk.br_zero]
          simp [toList_madeCells_one]
        rw [← e2]
        exact hown, hbel⟩
      clear hown hgrow hbel
      go_wp2_with fail
      go_loopw [148] (fun s148 W => ∃ r : Nat, s148 = .int .i64 (r : Int) ∧ r ≤ NR ∧ Hid (BB16 4 w6 nS (Pk.BL nS (Pk.br R r)) W)) (fun s148 _ => NR - (intOf s148).toNat)
      case atStart => exact ⟨0, rfl, Nat.zero_le _, HM7⟩
      case round =>
        clear HM7
        obtain ⟨r, rfl, hr, hm⟩ := hrel
        by_cases hlt : r < NR
        · have hin : (r : Int) < (NR : Int) := by omega
          obtain ⟨bp, rfl, hbp, hcp2⟩ := P6.out.cells (by omega)
          have c0' := (Below.cell hm.out.bel (by exact hbp)).trans (hcp2 r hlt).1
          have c1' := (Below.cell hm.out.bel (by exact hbp)).trans (hcp2 r hlt).2
          obtain ⟨h1, h2⟩ := HRU.out r hlt
          have HB := hide (Pk.bm_begin (P := R) (n := nS) (i := r))
          have HE := hide (Pk.bm_end (P := R) (n := nS) (i := r))
          have HS := hide (fun k => Pk.bm_set (P := R) (n := nS) (i := r) (k := k))
          have HA := hide (fun k => Pk.bm_at (P := R) (n := nS) (i := r) (k := k))
          have HF := hide (fun k => HAH.out r k hlt)
          clear hcp2
          generalize (R.getD r (0, 0)).1 = p at *
          generalize (R.getD r (0, 0)).2 = q at *
          obtain ⟨V, hV⟩ : ∃ V, wr.alloc (.cells #[.int .i64 (p : Int), .int .i64 (q : Int)] 41) = V := ⟨_, rfl⟩
          have v0 : V.cell? ⟨wr.heap.size, 0, none⟩ = some (.int .i64 (p : Int)) := by rw [← hV, World.cell?_alloc_mark]; rfl
          have HV : Hid (BB16 4 w6 nS (Pk.BL nS (Pk.br R r)) V) := hide (hV ▸ hm.out.keep (KO.alloc (KO.refl _) (.cells #[.int .i64 (p : Int), .int .i64 (q : Int)] 41)))
          have HK : Hid (V.heap[wr.heap.size]? = some (.cells #[.int .i64 (p : Int), .int .i64 (q : Int)] 41 (0, 0))) := hide (by rw [← hV]; exact World.alloc_heap_new wr _)
          obtain ⟨rb, hrb⟩ : ∃ rb, wr.heap.size = rb := ⟨_, rfl⟩
          have HRB : Hid (w6.heap.size < rb) := hide (by rw [← hrb]; exact (hm.out.own.lt w6.heap.size rfl).2)
          rw [hrb] at v0 HK
          clear hm
          go_wp2
          clear hV
          go_loopw [25] (fun s25 W => ∃ k : Nat, s25 = .int .i64 (k : Int) ∧ p ≤ k ∧ k ≤ q ∧ Hid (BB16 4 w6 nS (Pk.BL nS (Pk.bm R r k)) W) ∧ Hid (W.heap[rb]? = some (.cells #[.int .i64 (p : Int), .int .i64 (q : Int)] 41 (0, 0)))) (fun s25 _ => q - (intOf s25).toNat)
          case atStart => exact ⟨p, rfl, Nat.le_refl _, by omega, hide (HV.out.eq HB.out.symm), HK⟩
          case round =>
            clear HV HK v0
            obtain ⟨k, rfl, hk1, hk2, hm, hkb⟩ := hrel
            have v1 : wr.cell? ⟨rb, 1, none⟩ = some (.int .i64 (q : Int)) := by rw [cell_of_blk16 hkb.out]; rfl
            by_cases hlt3 : k < q
            · have hin3 : (k : Int) < (q : Int) := by omega
              have hkn : (k : Int) < (nS : Int) := by omega
              have hkn2 : ¬ (nS : Int) ≤ (k : Int) := by omega
              have hk0 : ¬ (k : Int) < 0 := by omega
              have ck := hm.out.cell (j := k) (by omega)
              rw [HA.out k (by omega), HF.out k hk1] at ck
              have fk := hm.out.fz k
              have HM8 := hide ((hm.out.set k true).eq (HS.out k (by omega) hk1))
              have HK8 := hide (blk_set16 hkb.out (p := ⟨w6.heap.size, k, none⟩) (by have := HRB.out; show rb ≠ w6.heap.size; omega) (.bool true))
              clear hm hkb
              go_wp2
              go_roundw
              case rel => exact ⟨k + 1, by go_num, by omega, by omega, HM8, HK8⟩
              case measure => simp [intOf]; omega
            · obtain rfl : q = k := by omega
              have hne3 : ¬ (q : Int) < (q : Int) := by omega
              go_wp2
              go_roundw
              case rel => exact ⟨r + 1, by go_num, by omega, hide (hm.out.eq HE.out)⟩
              case measure => simp [intOf]; omega
        · obtain rfl : NR = r := by omega
          have hne : ¬ (NR : Int) < (NR : Int) := by omega
          have hlc := L6.out.le
          have hlm := L6.out.max
          unfold maxLen at hlm
          have MK := hide hm.out
          clear hm HRU HAH
          obtain ⟨w8, hw8⟩ : ∃ w8, w8 = wr := ⟨_, rfl⟩
          subst hw8
          go_wp2
          go_loopw [180] (fun s180 W => ∃ k : Nat, s180 = .int .i64 (k : Int) ∧ k ≤ nS ∧ Hid (KO w8 W)) (fun s180 _ => nS - (intOf s180).toNat)
          case atStart => exact ⟨0, rfl, Nat.zero_le _, hide (KO.refl _)⟩
          case round =>
            obtain ⟨k, rfl, hk, hkw⟩ := hrel
            by_cases hlt3 : k < nS
            · have hin3 : (k : Int) < (nS : Int) := by omega
              obtain ⟨p, hp, hLp, hSp⟩ := HCOL.out k hlt3
              have hbr := HBR.out k hlt3
              rw [hLp] at hbr
              have KW := hide (KO.on MK.out.bel hkw.out)
              obtain ⟨bs, os, rfl, hbs', hcs⟩ := S6.out.cells (by omega)
              obtain ⟨bl, ol, rfl, hbl, hcl⟩ := L6.out.cells (by omega)
              obtain ⟨bd, od, rfl, hbd, hcd⟩ := R6.out.cells (by omega)
              obtain ⟨bx, ox, rfl, hbx, hcx⟩ := X6.out.cells (by omega)
              have cl0 := (Below.cell KW.out (by exact hbl)).trans (hcl k (by rw [HLl.out]; exact hlt3))
              rw [hLp] at cl0
              have cs0 := hcs k (by rw [HnS.out]; exact hlt3)
              have cd0 := hcd p (by rw [HnD.out]; exact hp)
              have cx0 := hcx p (by rw [HXn.out]; exact hp)
              have cm0 := MK.out.cell (j := k) hlt3
              rw [Pk.BL_at hlt3, hbr] at cm0
              rw [hSp] at cs0
              have hpD : (p : Int) < (nD : Int) := by omega
              have hmb : w6.heap.size < w8.heap.size := (MK.out.own.lt w6.heap.size rfl).2
              have hcS : ∀ W, KO wr W → W.cell? ⟨bs, os + k, none⟩ = some (.int .i32 (Mi.gl (D.getD p 0) (X.getD p 0))) := fun W h => (Below.cell (KO.on KW.out h) (by exact hbs')).trans cs0
              have hcD : ∀ W, KO wr W → W.cell? ⟨bd, od + p, none⟩ = some (.int .i32 (D.getD p 0)) := fun W h => (Below.cell (KO.on KW.out h) (by exact hbd)).trans cd0
              have hcX : ∀ W, KO wr W → W.cell? ⟨bx, ox + p, none⟩ = some (.int .i64 (X.getD p 0)) := fun W h => (Below.cell (KO.on KW.out h) (by exact hbx)).trans cx0
              have HG := hide (fun (W : World) (hk : KO wr W) => HGL.out p hp W (KO.on K6.out (KO.on KW.out hk)))
              have hK : KO wr wr := KO.refl _
              have hor : ((f : Int) ≤ (p : Int) ∧ (p : Int) < (t : Int) ∧ decide ((f : Int) ≤ (p : Int) ∧ (p : Int) < (t : Int)) = true) ∨ ((f : Int) ≤ (p : Int) ∧ ¬ (p : Int) < (t : Int) ∧ decide ((f : Int) ≤ (p : Int) ∧ (p : Int) < (t : Int)) = false) ∨ (¬ (f : Int) ≤ (p : Int) ∧ decide ((f : Int) ≤ (p : Int) ∧ (p : Int) < (t : Int)) = false) := by
                by_cases g1 : (f : Int) ≤ (p : Int)
                · by_cases g2 : (p : Int) < (t : Int)
                  · exact .inl ⟨g1, g2, decide_eq_true ⟨g1, g2⟩⟩
                  · exact .inr (.inl ⟨g1, g2, decide_eq_false fun h => g2 h.2⟩)
                · exact .inr (.inr ⟨g1, decide_eq_false fun h => g1 h.1⟩)
              clear hcs hcl hcd hcx cs0 cd0 cx0 hbr hSp hLp
              generalize Mi.gl (D.getD p 0) (X.getD p 0) = g at *
              generalize D.getD p 0 = dx at *
              generalize X.getD p 0 = xx at *
              have hgg : (g != g) = false := by simp
              rcases hor with ⟨g1, g2, g3⟩ | ⟨g1, g2, g3⟩ | ⟨g1, g3⟩
              · rw [g3] at cm0
                have hcM : ∀ W, KO wr W → W.cell? ⟨w6.heap.size, k, none⟩ = some (.bool true) := fun W h => (Below.cell (KO.on hkw.out h) (by exact hmb)).trans cm0
                have d1 : decide ((f : Int) ≤ (p : Int)) = true := decide_eq_true g1
                have d2 : decide (f ≤ p) = true := decide_eq_true (by omega)
                have d3 : decide ((p : Int) < (t : Int)) = true := decide_eq_true g2
                have d4 : decide (p < t) = true := decide_eq_true (by omega)
                clear cm0 g3
                go_wp2_with fail
                refine wp_region_noPanic ?_
                go_region_held (fun w' => KO wr w') (first | assumption | exact KO.drew hK)
                  (first
                    | (go_at_call 10; refine (HG.out _ (by assumption)).mono ?_; rintro e w9 ⟨rfl, hk9⟩; have hk9' : KO wr w9 := KO.on (by assumption) hk9))
                all_goals (
                  refine NoPanic.normal ?_
                  have HZ := hide (KO.on hkw.out hk9')
                  clear hk9 hk9' hcS hcD hcX hcM hK hkw HG
                  go_wp2
                  go_roundw
                  case rel => exact ⟨k + 1, by go_num, by omega, HZ⟩
                  case measure => simp [intOf]; omega)
              · rw [g3] at cm0
                have hcM : ∀ W, KO wr W → W.cell? ⟨w6.heap.size, k, none⟩ = some (.bool false) := fun W h => (Below.cell (KO.on hkw.out h) (by exact hmb)).trans cm0
                have d1 : decide ((f : Int) ≤ (p : Int)) = true := decide_eq_true g1
                have d2 : decide (f ≤ p) = true := decide_eq_true (by omega)
                have d3 : decide ((p : Int) < (t : Int)) = false := decide_eq_false g2
                have d4 : decide (p < t) = false := decide_eq_false (by omega)
                clear cm0 g3
                go_wp2_with fail
                refine wp_region_noPanic ?_
                go_region_held (fun w' => KO wr w') (first | assumption | exact KO.drew hK)
                  (first
                    | (go_at_call 10; refine (HG.out _ (by assumption)).mono ?_; rintro e w9 ⟨rfl, hk9⟩; have hk9' : KO wr w9 := KO.on (by assumption) hk9))
                all_goals (
                  refine NoPanic.normal ?_
                  have HZ := hide (KO.on hkw.out hk9')
                  clear hk9 hk9' hcS hcD hcX hcM hK hkw HG
                  go_wp2
                  go_roundw
                  case rel => exact ⟨k + 1, by go_num, by omega, HZ⟩
                  case measure => simp [intOf]; omega)
              · rw [g3] at cm0
                have hcM : ∀ W, KO wr W → W.cell? ⟨w6.heap.size, k, none⟩ = some (.bool false) := fun W h => (Below.cell (KO.on hkw.out h) (by exact hmb)).trans cm0
                have d1 : decide ((f : Int) ≤ (p : Int)) = false := decide_eq_false g1
                have d2 : decide (f ≤ p) = false := decide_eq_false (by omega)
                clear cm0 g3
                go_wp2_with fail
                refine wp_region_noPanic ?_
                first
                  | (go_region_held (fun w' => KO wr w') (first | assumption | exact KO.drew hK)
                      (first
                        | (go_at_call 10; refine (HG.out _ (by assumption)).mono ?_; rintro e w9 ⟨rfl, hk9⟩; have hk9' : KO wr w9 := KO.on (by assumption) hk9)))
                  | fail
                all_goals (
                  refine NoPanic.normal ?_
                  have HZ := hide (KO.on hkw.out hk9')
                  clear hk9 hk9' hcS hcD hcX hcM hK hkw HG
                  go_wp2
                  go_roundw
                  case rel => exact ⟨k + 1, by go_num, by omega, HZ⟩
                  case measure => simp [intOf]; omega)
            · obtain rfl : nS = k := by omega
              have hne3 : ¬ (nS : Int) < (nS : Int) := by omega
              go_wp2
              go_ret
              exact ⟨rfl, KO.on K6.out (KO.on MK.out.bel hkw.out)⟩
    · obtain ⟨hm0, hX0, hS0⟩ := TA_no hTA hE
      have hE2 : E = 50 := by
        obtain ⟨L, hPA, _⟩ := hTA
        rcases hPA with ⟨h1, _⟩ | ⟨_, h4, _⟩ | ⟨_, _, _, _, _, e⟩ | ⟨_, _, _, _, _, e⟩
        · exact absurd ⟨by decide, by decide⟩ h1
        · omega
        · exact e
        · exact absurd e hE
      subst hm0 hX0 hS0 hE2
      clear h0 f0 hby hw hD hsc hDw hnD hTA hm hE hed hfull
      simp only [List.length_nil] at HLN
      go_enter Tryz.func3, Tryz.ntmps3
      go_wp2_with fail
      refine HR1.out.mono ?_
      rintro e wa ⟨aa, ca, rfl, _, hka⟩
      have KB := hide (KO.on KA.out hka)
      have HDC1 := hide (HDC.out wa (KO.on KA.out hka))
      clear hka HR1 HDC
      go_wp2_with fail
      refine HDC1.out.mono ?_
      rintro e w1 ⟨v1, rfl, ho1, hk1⟩
      obtain ⟨a1, c1, rfl, hr1⟩ := row_of_owns ho1
      have K1 := hide (show KO w w1 from KO.on KB.out hk1)
      have R1 := hide hr1
      have HEN1 := hide (HEN.out a1 c1 w1 hr1)
      clear ho1 hk1 hr1 HDC1 HEN
      go_wp2_with fail
      refine HEN1.out.mono ?_
      rintro e w2 ⟨v2, rfl, ho2, hk2⟩
      obtain ⟨a2, c2, rfl, hr2⟩ := row_of_owns ho2
      have K2 := hide (show KO w w2 from KO.on K1.out hk2)
      have q1 := HST.out _ _ _ hr2
      have q2 := HST.out _ _ _ (H0.out.below K2.out)
      have HLN1 := hide (HLN.out a1 c1 w2 (R1.out.below hk2) K2.out)
      clear ho2 hk2 hr2 HEN1 HLN
      generalize str b = sB at *
      go_wp2_with fail
      refine HLN1.out.mono ?_
      rintro e w3 ⟨a3, c3, rfl, hx3, hk3⟩
      have K3 := hide (KO.on K2.out hk3)
      clear hx3 hk3 HLN1
      go_wp2
      go_ret
      exact ⟨rfl, K3.out⟩
  · have HDC := hide (fun (W : World) (hk : KO w W) => decode_no a0 n0 c0 b W (h0.below hk) hby (by omega))
    generalize (Utf.dec b).2 = p at *
    clear hm h0 f0 hby
    go_enter Tryz.func3, Tryz.ntmps3
    go_wp2_with fail
    refine HR1.out.mono ?_
    rintro e wa ⟨aa, ca, rfl, _, hka⟩
    have KB := hide (KO.on KA.out hka)
    have HDC1 := hide (HDC.out wa KB.out)
    clear hka HR1 HDC
    go_wp2_with fail
    refine HDC1.out.mono ?_
    rintro e w1 ⟨rfl, rfl⟩
    go_wp2
    go_ret
    exact ⟨rfl, KB.out⟩
end Go.Proofs.YtmdmehopefgndaaGreatDoor
