import Derived.Test.YtfcoebbblfcdoaaGreatDoorZ06
import Derived.Laws.AppendOwn
import Derived.Test.YtfcoebbblfcdoaaGreatDoorZ29
import Derived.Test.YtfcoebbblfcdoaaGreatDoorZ12
import Derived.Test.YtfcoebbblfcdoaaGreatDoorZ09
import Derived.Test.YtfcoebbblfcdoaaGreatDoorZ24
/- Two rows of numbers that a call makes beside one another, in whatever order: 'append(append([]int{}, p...), q...)' twice in one statement that draws its order. -/
namespace Go.Proofs.YtfcoebbblfcdoaaGreatDoor
open Go.RowKit
set_option linter.unusedVariables false
structure J2 (e : TypeId) (w0 w : World) (va : Value) (na : Nat) (xa : List Int) (vb : Value) (nb : Nat) (xb : List Int) : Prop where
 oa : w.ownsRow w0.heap.size e 1 va na (xa.map (Value.int .i64))
 ob : w.ownsRow w0.heap.size e 1 vb nb (xb.map (Value.int .i64))
 ne : ∀ g, va.ownBlock = some g -> ¬ vb.ownBlock = some g
 bel : Below w0.heap.size w0 w
section
variable {e : TypeId} {w0 w : World} {va : Value} {na : Nat} {xa : List Int} {vb : Value} {nb : Nat} {xb : List Int}
theorem J2.symm (h : J2 e w0 w va na xa vb nb xb) : J2 e w0 w vb nb xb va na xa := ⟨h.ob, h.oa, fun g h1 h2 => h.ne g h2 h1, h.bel⟩
theorem J2.below (h : J2 e w0 w va na xa vb nb xb) {w' : World} (hb : Below w.heap.size w w') : J2 e w0 w' va na xa vb nb xb := ⟨owns_below h.oa hb, owns_below h.ob hb, h.ne, KO.on h.bel hb⟩
theorem J2.begin (w : World) : J2 e w w (.slice none 0 0) 0 [] (.slice none 0 0) 0 [] := ⟨World.ownsRow_nil _ _ _ _, World.ownsRow_nil _ _ _ _, fun g h => by simp [Value.ownBlock] at h, Below.refl _ _⟩
theorem J2.step (h : J2 e w0 w va na xa vb nb xb) {w' : World} {v' : Value} {n' : Nat} {xs : List Int} (ho : w'.ownsRow w0.heap.size e 1 v' n' (xs.map (Value.int .i64))) (hg : w.grownBy w' va.ownBlock) (hb : v'.ownBlock = va.ownBlock \/ v'.ownBlock = some w.heap.size) : J2 e w0 w' v' n' xs vb nb xb := by
 refine ⟨ho, ?_, ?_, ?_⟩
 ·refine h.ob.kept hg ?_
  cases hv : vb.ownBlock with
  | none => exact .inl rfl
  | some g => exact .inr (fun h1 => h.ne g h1.symm hv)
 ·intro g h1 h2
  rcases hb with hb | hb
  ·rw [hb] at h1; exact h.ne g h1 h2
  ·rw [hb] at h1
   have := (h.ob.lt g h2).2
   simp at h1
   omega
 ·exact h.bel.grown hg h.bel.size (fun j hj => (h.oa.lt j hj).1)
end
theorem run_append_at {P : Program} (w : World) (base : Nat) (t ty e : TypeId) (i : TypeInfo) (z : Value) (ht : P.underlying t = some (.slice e)) (hi : P.info? e = some i) (hz : i.zero = some z) (hsize : i.size = 1) (hby : i.bytes = 8) (hzs : z.cells.size = 1)
  (g n cap : Nat) (xs : List Int) (hown : w.ownsRow base e 1 (.slice (some ⟨g, 0, none⟩) n cap) n (xs.map (Value.int .i64)))
  (ad : Addr) (m c : Nat) (zs : List Int) (hrow : Row .i64 w (some ad) m c zs) (hm : 0 < m) (hn : (n + m) * 8 <= 140737488355328) (hbase : base <= w.heap.size) :
  ∃ v' w', (Builtin.append_ #[t, t] ty #[.slice (some ⟨g, 0, none⟩) n cap, .slice (some ad) m c]).run P w = .ok v' w' /\ w'.ownsRow base e 1 v' (n + m) ((xs ++ zs).map (Value.int .i64)) /\ w.grownBy w' (some g) /\ (v'.ownBlock = some g \/ v'.ownBlock = some w.heap.size) := by
 have hnews : ∀ j u, (zs.map (Value.int .i64))[j]? = some u -> w.cell? (ad.add j) = some u := by
  intro j u hj
  have hjl : j < zs.length := by
   have := (List.getElem?_eq_some_iff.1 hj).1
   simpa using this
  have hl := hrow.len
  obtain ⟨b, off, e1, _, hc⟩ := hrow.cells (by omega)
  simp only [Option.some.injEq] at e1
  subst e1
  have hadd : (⟨b, off, none⟩ : Addr).add j = ⟨b, off + j, none⟩ := by unfold Addr.add; split <;> simp_all
  rw [hadd, hc j hjl]
  rw [List.getElem?_map, List.getElem?_eq_getElem hjl] at hj
  simp only [Option.map_some, Option.some.injEq] at hj
  rw [<- hj]
  simp [List.getD, List.getElem?_eq_getElem hjl]
 have hlen : (zs.map (Value.int .i64)).length = m * 1 := by simp [hrow.len]
 obtain ⟨v', w', hr, h2, h3, _⟩ := run_append_own (P := P) w base t ty e i z 1 8 ht hi hz hsize hby hzs (by decide) (.slice (some ⟨g, 0, none⟩) n cap) n _ hown ad m c (zs.map (Value.int .i64)) hlen hnews (ints_oneCell .i64 zs) (by unfold maxLen; omega) (by omega) hbase
 rw [<- List.map_append] at h2
 refine ⟨v', w', hr, h2, h3, ?_⟩
 have ho := hown
 rcases ho.2 with ⟨h0, _⟩ | ⟨g', cap', cur, hv, hbg, hg, hnc, hcm, hcs, htake⟩
 ·cases h0
 ·cases hv
  by_cases hroom : n + m <= cap
  ·have hfit : n * i.size + (zs.map (Value.int .i64)).length <= cur.size := by rw [hsize, hcs]; simp [hrow.len]; omega
   have hq := run_append_room (P := P) w t ty e i ht hi g n cap cur hg ad m c (zs.map (Value.int .i64)) (by rw [hsize]; exact hlen) hnews (ints_oneCell .i64 zs) hroom hfit
   rw [hq] at hr
   simp only [Result.ok.injEq] at hr
   left
   rw [<- hr.1]
   rfl
  ·have holds : ∀ j x, (xs.map (Value.int .i64))[j]? = some x -> w.cell? ((⟨g, 0, none⟩ : Addr).add j) = some x := hown.cells (g := g) rfl
   have hq := run_append_grow (P := P) w t ty e i z ht hi hz ⟨g, 0, none⟩ n cap (xs.map (Value.int .i64)) (by rw [hsize]; exact hown.1) holds ad m c (zs.map (Value.int .i64)) (by rw [hsize]; exact hlen) hnews (by omega) (by omega) (growslice_fits (by omega) (by rw [hby]; omega))
   rw [hq] at hr
   simp only [Result.ok.injEq] at hr
   right
   rw [<- hr.1]
   rfl
section
variable {P : Program} {ops : Array Oper} {o : Oper} {a : Act} {K : Act -> World -> Prop} {Q : Exit -> Act -> World -> Prop} {E : Prop}
end
end Go.Proofs.YtfcoebbblfcdoaaGreatDoor

/- Two rows of numbers that grow by one number a time. -/
namespace Go.Proofs.YtfcoebbblfcdoaaGreatDoor
open Go.RowKit
set_option linter.unusedVariables false
theorem J2.step' {e : TypeId} {w0 w : World} {va : Value} {na : Nat} {xa : List Int} {vb : Value} {nb : Nat} {xb : List Int} (h : J2 e w0 w va na xa vb nb xb) {w' : World} {v' : Value} {n' : Nat} {xs : List Int} (ho : w'.ownsRow w0.heap.size e 1 v' n' (xs.map (Value.int .i64))) (hg : w.grownBy w' va.ownBlock) (hb : v'.ownBlock = va.ownBlock \/ ∃ g, v'.ownBlock = some g /\ w.heap.size <= g) : J2 e w0 w' v' n' xs vb nb xb := by
 refine ⟨ho, ?_, ?_, ?_⟩
 ·refine h.ob.kept hg ?_
  cases hv : vb.ownBlock with
  | none => exact .inl rfl
  | some g => exact .inr (fun h1 => h.ne g h1.symm hv)
 ·intro g h1 h2
  rcases hb with hb | ⟨g', hb, hg'⟩
  ·rw [hb] at h1; exact h.ne g h1 h2
  ·rw [hb] at h1
   have := (h.ob.lt g h2).2
   simp at h1
   omega
 ·exact h.bel.grown hg h.bel.size (fun j hj => (h.oa.lt j hj).1)
theorem run_append_j2 {P : Program} {e : TypeId} {w0 w : World} {va : Value} {na : Nat} {xa : List Int} {vb : Value} {nb : Nat} {xb : List Int} (hJ : J2 e w0 w va na xa vb nb xb) (t ty : TypeId) (i : TypeInfo) (z : Value) (ht : P.underlying t = some (.slice e)) (hi : P.info? e = some i) (hz : i.zero = some z) (hsize : i.size = 1) (hby : i.bytes = 8) (hzs : z.cells.size = 1)
  (ad : Addr) (y : Int) (hrow : Row .i64 w (some ad) 1 1 [y]) (hn : (na + 1) * 8 <= 140737488355328) :
  ∃ g cp w', (Builtin.append_ #[t, t] ty #[va, .slice (some ad) 1 1]).run P w = .ok (.slice (some ⟨g, 0, none⟩) (na + 1) cp) w' /\ J2 e w0 w' (.slice (some ⟨g, 0, none⟩) (na + 1) cp) (na + 1) (xa ++ [y]) vb nb xb := by
 rcases hJ.oa.2 with ⟨rfl, rfl⟩ | ⟨g, cap, cur, rfl, _⟩
 ·have hxa : xa = [] := by have := hJ.oa.1; simpa using this
  subst hxa
  have hnews : ∀ j u, ([y].map (Value.int .i64))[j]? = some u -> w.cell? (ad.add j) = some u := by
   intro j u hj
   obtain ⟨b, off, e1, _, hc⟩ := hrow.cells (by omega)
   simp only [Option.some.injEq] at e1
   subst e1
   match j, hj with
   | 0, hj =>
    simp at hj
    subst hj
    have hadd : (⟨b, off, none⟩ : Addr).add 0 = ⟨b, off + 0, none⟩ := by unfold Addr.add; split <;> simp_all
    rw [hadd]
    exact hc 0 (by simp)
   | j + 1, hj => simp at hj
  obtain ⟨v', w', hr, h2, h3, _⟩ := run_append_own (P := P) w w.heap.size t ty e i z 1 8 ht hi hz hsize hby hzs (by decide) (.slice none 0 0) 0 [] (World.ownsRow_nil _ _ _ _) ad 1 1 ([y].map (Value.int .i64)) (by simp) hnews (ints_oneCell .i64 [y]) (by unfold maxLen; omega) (by omega) (Nat.le_refl _)
  rcases h2.2 with ⟨_, h0⟩ | ⟨g', cp, cur, rfl, hb, _⟩
  ·omega
  exact ⟨g', cp, w', hr, hJ.step' (owns_mono (by simpa using h2) hJ.bel.size) h3 (.inr ⟨g', rfl, hb⟩)⟩
 ·obtain ⟨v', w', hr, h2, h3, h4⟩ := run_append_at (P := P) w w0.heap.size t ty e i z ht hi hz hsize hby hzs g na cap xa hJ.oa ad 1 1 [y] hrow (by omega) (by omega) hJ.bel.size
  have hj := hJ.step h2 h3 h4
  rcases h2.2 with ⟨_, h0⟩ | ⟨g', cp, cur, rfl, _⟩
  ·omega
  exact ⟨g', cp, w', hr, hj⟩
theorem wpList_j2 {P : Program} {ops : Array Oper} {rest : List Oper} {o : Oper} {a : Act} {Q : Exit -> Act -> World -> Prop} {e : TypeId} {w0 w : World} {va : Value} {na : Nat} {xa : List Int} {vb : Value} {nb : Nat} {xb : List Int} (hJ : J2 e w0 w va na xa vb nb xb) (hgd : o.guard = none) (s x : Operand) (t : TypeId)
  (ho : o.op = .call { callee := .builtin .append, args := #[s, x], argTypes := #[t, t] }) (i : TypeInfo) (z : Value) (ht : P.underlying t = some (.slice e)) (hi : P.info? e = some i) (hz : i.zero = some z) (hsize : i.size = 1) (hby : i.bytes = 8) (hzs : z.cells.size = 1)
  (hs : a.eval s = va) (ad : Addr) (y : Int) (hx : a.eval x = .slice (some ad) 1 1) (hrow : Row .i64 w (some ad) 1 1 [y]) (hn : (na + 1) * 8 <= 140737488355328)
  (h : ∀ g cp w', J2 e w0 w' (.slice (some ⟨g, 0, none⟩) (na + 1) cp) (na + 1) (xa ++ [y]) vb nb xb -> wpList P ops Q rest (a.put o.dst (.slice (some ⟨g, 0, none⟩) (na + 1) cp)) w') : wpList P ops Q (o :: rest) a w :=
 wpList_plain hgd fun K hK => by
  obtain ⟨g, cp, w', hr, h2⟩ := run_append_j2 (P := P) hJ t o.type i z ht hi hz hsize hby hzs ad y hrow hn
  unfold Oper.wp execOp
  simp only [ho, resolve, invoke, builtin, Sem.run_bind, Sem.run_pure, Result.andThen_ok, List.map_toArray, List.map_cons, List.map_nil, hs, hx, hr]
  exact hK _ _ (h g cp w' h2)
end Go.Proofs.YtfcoebbblfcdoaaGreatDoor

/- The rows of levels and types, and the list of sequences, while levels are written. -/
namespace Go.Proofs.YtfcoebbblfcdoaaGreatDoor
open Go.RowKit
set_option linter.unusedVariables false
set_option maxHeartbeats 1000000
set_option maxRecDepth 100000
theorem owns_low {w : World} {B e k n g : Nat} {v : Value} {xs : List Value} (h : w.ownsRow B e k v n xs) (hg : g < B) (j : Nat) (x : Value) : (w.setCell ⟨g, j, none⟩ x).ownsRow B e k v n xs := by
 refine ⟨h.1, ?_⟩
 rcases h.2 with hn | ⟨g', cap, cur, rfl, hb, hh, rest⟩
 ·exact .inl hn
 ·refine .inr ⟨g', cap, cur, rfl, hb, ?_, rest⟩
  rw [Below.heap_setCell _ _ _ _ (show g' ≠ g by omega)]
  exact hh
theorem SO.low {w : World} {B g : Nat} {v : Value} {hs : List (Nat × Nat)} {ss : List Rn.Sq} (h : SO B w v hs ss) (hg : g < B) (j : Nat) (x : Value) : SO B (w.setCell ⟨g, j, none⟩ x) v hs ss :=
 ⟨owns_low h.oa hg j x, h.lh, fun i hi => owns_low (h.rows i hi) hg j x⟩
theorem row_apart {k : IntKind} {w : World} {b off n cap g : Nat} {zs : List Int} (h : Row k w (some ⟨b, off, none⟩) n cap zs) (hne : ¬ b = g) (j : Nat) (x : Value) : Row k (w.setCell ⟨g, j, none⟩ x) (some ⟨b, off, none⟩) n cap zs := by
 refine ⟨h.len, h.le, h.max, fun h0 => ?_, h.nil⟩
 obtain ⟨b2, o2, e, hb, hc⟩ := h.cells h0
 simp only [Option.some.injEq, Addr.mk.injEq, and_true] at e
 obtain ⟨rfl, rfl⟩ := e
 refine ⟨b, off, rfl, by rw [size_set]; exact hb, fun i hi => ?_⟩
 rw [World.cell?_setCell_other _ _ _ _ (fun e => by simp only [Addr.mk.injEq] at e; exact hne e.1.symm)]
 exact hc i hi
theorem fresh_apart {w w1 : World} {a1 : Option Addr} {n cap g : Nat} {zs : List Int} (h : Row .i64 w1 a1 n cap zs) (hf : Fresh w a1 n) (hg : g < w.heap.size) (j : Nat) (x : Value) : Row .i64 (w1.setCell ⟨g, j, none⟩ x) a1 n cap zs := by
 rcases Nat.eq_zero_or_pos n with rfl | h0
 ·exact ⟨h.len, h.le, h.max, fun q => absurd q (by omega), h.nil⟩
 ·obtain ⟨b, rfl, hb⟩ := hf h0
  exact row_apart h (by omega) j x
structure S1 (w : World) (B : Nat) (sa : Option Addr) (j : Nat) (s : Rn.Sq) (gj cj : Nat) : Prop where
 pos : ∃ g0, sa = some ⟨g0, 0, none⟩ /\ g0 < w.heap.size /\ w.cell? ⟨g0, j * 4, none⟩ = some (.slice (some ⟨gj, 0, none⟩) s.places.length cj) /\ w.cell? ⟨g0, j * 4 + 1, none⟩ = some (.int .i64 s.lvl) /\ w.cell? ⟨g0, j * 4 + 2, none⟩ = some (.int .i64 s.sos) /\ w.cell? ⟨g0, j * 4 + 3, none⟩ = some (.int .i64 s.eos)
 row : Row .i64 w (some ⟨gj, 0, none⟩) s.places.length cj (Rn.zs s.places)
 le : B <= gj
theorem SO.one {B : Nat} {w : World} {sa : Option Addr} {cs : Nat} {hs : List (Nat × Nat)} {ss : List Rn.Sq} (h : SO B w (.slice sa ss.length cs) hs ss) {j : Nat} (hj : j < ss.length) : ∃ gj cj, S1 w B sa j (ss.getD j default) gj cj := by
 obtain ⟨g, c2, e, _, _⟩ := owns_pos h.oa (by omega)
 simp only [Value.slice.injEq] at e
 obtain ⟨rfl, _, rfl⟩ := e
 have key : ∀ i, i < 4 -> w.cell? ⟨g, j * 4 + i, none⟩ = (sc (hs.getD j (0, 0)) (ss.getD j default))[i]? := fun i hi => by
  have hlen : (scs hs ss).length = ss.length * 4 := h.oa.1
  have := h.oa.lt g rfl
  rw [show w.cell? ⟨g, j * 4 + i, none⟩ = (scs hs ss)[j * 4 + i]? from h.oa.cellAt (j * 4 + i) (by rw [hlen.symm, hlen]; omega)]
  exact scs_at hs ss j i h.lh hj hi
 exact ⟨(hs.getD j (0, 0)).1, (hs.getD j (0, 0)).2, ⟨g, rfl, (h.oa.lt g rfl).2, key 0 (by omega), key 1 (by omega), key 2 (by omega), key 3 (by omega)⟩, row_owned (h.rows j hj), ((h.rows j hj).lt _ rfl).1⟩
structure LPW (w0 W : World) (B g gt n cl ct : Nat) (zs T : List Int) (sv : Value) (ss : List Rn.Sq) : Prop where
 ow : W.ownsRow w0.heap.size 3 1 (.slice (some ⟨g, 0, none⟩) n cl) n (zs.map (Value.int .i64))
 ot : W.ownsRow w0.heap.size 3 1 (.slice (some ⟨gt, 0, none⟩) n ct) n (T.map (Value.int .i64))
 ne : ¬ g = gt
 lt : g < B /\ gt < B
 so : ∃ hs, SO B W sv hs ss
 bel : Below w0.heap.size w0 W
section
variable {w0 W W' : World} {B g gt n cl ct : Nat} {zs T : List Int} {sv : Value} {ss : List Rn.Sq}
theorem LPW.keep (h : LPW w0 W B g gt n cl ct zs T sv ss) (hk : KO W W') : LPW w0 W' B g gt n cl ct zs T sv ss := by
 obtain ⟨hs, hso⟩ := h.so
 exact ⟨owns_below h.ow hk, owns_below h.ot hk, h.ne, h.lt, ⟨hs, hso.below hk⟩, KO.on h.bel hk⟩
theorem LPW.set (h : LPW w0 W B g gt n cl ct zs T sv ss) (j : Nat) (y : Int) : LPW w0 (W.setCell ⟨g, j, none⟩ (.int .i64 y)) B g gt n cl ct (zs.set j y) T sv ss := by
 obtain ⟨hs, hso⟩ := h.so
 exact ⟨owns_set h.ow j y, owns_other h.ot (fun e => h.ne e.symm), h.ne, h.lt, ⟨hs, hso.low h.lt.1 j _⟩, h.bel.setCell (p := ⟨g, j, none⟩) (h.ow.lt g rfl).1 _⟩
theorem LPW.cell (h : LPW w0 W B g gt n cl ct zs T sv ss) {j : Nat} (hj : j < n) : W.cell? ⟨g, j, none⟩ = some (.int .i64 (zs.getD j 0)) /\ W.frozen? ⟨g, j, none⟩ = false := ⟨owns_cell h.ow j hj, h.ow.frozenAt j⟩
theorem LPW.types (h : LPW w0 W B g gt n cl ct zs T sv ss) : Row .i64 W (some ⟨gt, 0, none⟩) n ct T := row_owned h.ot
theorem LPW.levels (h : LPW w0 W B g gt n cl ct zs T sv ss) : Row .i64 W (some ⟨g, 0, none⟩) n cl zs := row_owned h.ow
end
end Go.Proofs.YtfcoebbblfcdoaaGreatDoor

/- The list of levels as sequences are written into it, in steps: plain mathematics. -/
namespace Go.Proofs.YtfcoebbblfcdoaaGreatDoor.Rn
set_option linter.unusedVariables false
open Ex (lev LV TY rm Formed)
def WK (l : List Int) (b : Int) (c : List Int) (j m : Nat) : List Int := WL (PV F13 l b c) (LV b c) (AK b c j ++ ((SQ b c).getD j default).places.take m)
section
variable {l : List Int} {b : Int} {c : List Int}
theorem WK_first : WK l b c 0 0 = LV b c := by
 unfold WK
 rw [AK_zero, List.take_zero, List.append_nil, WL_nil]
theorem WK_set (hb : b = 0 \/ b = 1) (hF : Formed c) {j m : Nat} (hj : j < (SQ b c).length) (hm : m < ((SQ b c).getD j default).places.length) :
  (WK l b c j m).set (((SQ b c).getD j default).places.getD m 0) ((fv F13 l b c ((SQ b c).getD j default)).getD m 0) = WK l b c j (m + 1) := by
 rw [<- PV_at hb hF F13 l (sq_mem hj) hm]
 unfold WK
 rw [WL_set, take_places hm, List.append_assoc]
theorem WK_next {j : Nat} (hj : j < (SQ b c).length) : WK l b c j ((SQ b c).getD j default).places.length = WK l b c (j + 1) 0 := by
 unfold WK
 rw [List.take_of_length_le (Nat.le_refl _), <- AK_succ b c hj, List.take_zero, List.append_nil]
theorem WK_end (hb : b = 0 \/ b = 1) (hF : Formed c) : WK l b c (SQ b c).length 0 = PVs F13 l b c := by
 unfold WK
 rw [List.take_zero, List.append_nil, AK_all, WL_end hb hF]
theorem sq_in (hb : b = 0 \/ b = 1) (hF : Formed c) {j : Nat} (hj : j < (SQ b c).length) : ∀ i ∈ ((SQ b c).getD j default).places, i < c.length := fun i hi => ((SQ_ends hb hF _ (sq_mem hj)).kept i hi).1
theorem mx_bound {n : Nat} {ps : List Nat} (h : Lv.Mx (Nx b c) ps) (hl : ∀ i ∈ ps, i < n) : ps.length <= n := by
 have key : ∀ m, m < ps.length -> m <= ps.getD m 0 := by
  intro m
  induction m with
  | zero => intro _; exact Nat.zero_le _
  | succ m ih =>
   intro hm
   have h1 := ih (by omega)
   have h2 := mx_lt h (m + 1) m (by omega) hm
   omega
 rcases Nat.eq_zero_or_pos ps.length with h0 | h0
 ·omega
 ·have h1 := key (ps.length - 1) (by omega)
  have h2 := hl _ (getD_mem (show ps.length - 1 < ps.length by omega))
  omega
theorem sq_short (hb : b = 0 \/ b = 1) (hF : Formed c) {j : Nat} (hj : j < (SQ b c).length) : ((SQ b c).getD j default).places.length <= c.length :=
 mx_bound (SQ_ends hb hF _ (sq_mem hj)).mx (sq_in hb hF hj)
end
end Go.Proofs.YtfcoebbblfcdoaaGreatDoor.Rn

/- Sequences. -/
namespace Go.Proofs.YtfcoebbblfcdoaaGreatDoor
open Go.RowKit Go.Maps
set_option linter.unusedVariables false
set_option maxHeartbeats 1000000
set_option maxRecDepth 100000
theorem seqInfo3 : (Tryz.prog.info? 77).map (fun i => (i.zero, i.size, i.bytes)) = some (some (.agg #[.slice none 0 0, .int .i64 0, .int .i64 0, .int .i64 0]), 4, 48) := by kernel_rfl
theorem build_seq1 (ao : Option Addr) (n cap : Nat) (x y z : Int) (w : World) : (Instr.buildSlice 72 1 #[(0, .agg #[.slice ao n cap, .int .i64 x, .int .i64 y, .int .i64 z])]).run Tryz.prog w = .ok (.slice (some ⟨w.heap.size, 0, none⟩) 1 1) (w.alloc (.cells #[.slice ao n cap, .int .i64 x, .int .i64 y, .int .i64 z] 77)) := by
 have hq := seqInfo3
 cases hi : Tryz.prog.info? 77 with
 | none => rw [hi] at hq; cases hq
 | some ie =>
  rw [hi] at hq
  simp only [Option.map_some, Option.some.injEq, Prod.mk.injEq] at hq
  refine run_buildSlice w 72 77 1 _ _ ie _ Tryz.underlying72 hi hq.1 (by rw [hq.2.1]; decide) (by rw [hq.2.1]; decide) ?_
  rw [hq.2.1]
  kernel_rfl
theorem build_para (b : Int) (a1 a2 a3 : Option Addr) (n1 n2 n3 c1 c2 c3 : Nat) (w : World) : (Instr.build 158 #[(0, .int .i64 b), (1, .slice a1 n1 c1), (2, .slice a2 n2 c2), (3, .slice a3 n3 c3)]).run Tryz.prog w = .ok (.agg #[.int .i64 b, .slice a1 n1 c1, .slice a2 n2 c2, .slice a3 n3 c3, .map none]) w := run_build w 158 _ _ (by kernel_rfl)
theorem cells_new (w : World) (l : List Value) (t : TypeId) : ∀ j u, l[j]? = some u -> (w.alloc (.cells l.toArray t)).cell? ((⟨w.heap.size, 0, none⟩ : Addr).add j) = some u := by
 intro j u hj
 have hadd : (⟨w.heap.size, 0, none⟩ : Addr).add j = ⟨w.heap.size, j, none⟩ := by unfold Addr.add; split <;> simp_all
 rw [hadd, World.cell?_alloc_mark]
 simpa using hj
theorem sc_one (h : Nat × Nat) (s : Rn.Sq) : ∀ u ∈ sc h s, u.oneCell' = true := by
 intro u hu
 simp [sc] at hu
 rcases hu with rfl | rfl | rfl | rfl <;> rfl
theorem PG.make {w W W5 : World} {b : Int} {lv mt : List Int} {bl bm n : Nat} {ao : Option Addr} {cap : Nat} (rl : Row .i64 W (some ⟨bl, 0, none⟩) n n lv) (rm : Row .i64 W (some ⟨bm, 0, none⟩) n n mt) (ll : LL W ao (Rn.RS lv).length cap (Rn.RS lv)) (hn : n <= 2000)
  (hb : Below (W.heap.size + 1) (W.alloc (.cells #[.int .i64 b, .slice (some ⟨bl, 0, none⟩) n n, .slice (some ⟨bm, 0, none⟩) n n, .slice ao (Rn.RS lv).length cap, .map none] 158)) W5)
  (hm : ∃ D, W5.ownsMap Tryz.prog 3 (plainElem Tryz.prog 3) (W.heap.size + 1) (Rn.RS lv).length D /\ MD (Rn.RS lv) (Rn.RS lv).length D) :
  PG (W5.setCell ⟨W.heap.size, 4, none⟩ (.map (some (W.heap.size + 1)))) W.heap.size b lv mt (Rn.RS lv) bl bm n ao (Rn.RS lv).length cap (W.heap.size + 1) /\ W5.cell? ⟨W.heap.size, 3, none⟩ = some (.slice ao (Rn.RS lv).length cap) /\ W5.cell? ⟨W.heap.size, 4, none⟩ = some (.map none) /\ W5.frozen? ⟨W.heap.size, 4, none⟩ = false /\ Below W.heap.size W (W5.setCell ⟨W.heap.size, 4, none⟩ (.map (some (W.heap.size + 1)))) := by
 have h1 : (W.alloc (.cells #[.int .i64 b, .slice (some ⟨bl, 0, none⟩) n n, .slice (some ⟨bm, 0, none⟩) n n, .slice ao (Rn.RS lv).length cap, .map none] 158)).heap[W.heap.size]? = some (.cells #[.int .i64 b, .slice (some ⟨bl, 0, none⟩) n n, .slice (some ⟨bm, 0, none⟩) n n, .slice ao (Rn.RS lv).length cap, .map none] 158 (0, 0)) := heap_alloc_new _ _
 have h5 := (hb.block W.heap.size (by omega)).trans h1
 have h6 := sset_heap (j := 4) h5 (.map (some (W.heap.size + 1)))
 have hbel : Below W.heap.size W (W5.setCell ⟨W.heap.size, 4, none⟩ (.map (some (W.heap.size + 1)))) := (((Below.refl W.heap.size W).alloc (Nat.le_refl _) _).trans (hb.mono (by omega))).setCell (p := ⟨W.heap.size, 4, none⟩) (Nat.le_refl _) _
 obtain ⟨D, hD1, hD2⟩ := hm
 refine ⟨⟨?_, ?_, ?_, ?_, ?_, (Array.getElem?_eq_some_iff.1 h6).1, rl.below hbel, rm.below hbel, ll.below hbel, ⟨D, hD1.setCell (by simp) _, hD2⟩, Rn.runs_of lv, hn⟩, ?_, ?_, ?_, hbel⟩
 ·simp [World.cell?, h6]
 ·simp [World.cell?, h6]
 ·simp [World.cell?, h6]
 ·simp [World.cell?, h6]
 ·simp [World.cell?, h6]
 ·simp [World.cell?, h5]
 ·simp [World.cell?, h5]
 ·simp [World.frozen?, h5]
theorem mt_range (c : List Int) : ∀ i, i < c.length -> -1 <= (Iso.MT c).getD i 0 /\ (Iso.MT c).getD i 0 <= (c.length : Int) := by
 intro i hi
 rw [Iso.MT_at c i hi]
 unfold Iso.mt
 have h1 := Iso.partner_le c i hi
 have h2 := Iso.hd_range c i
 split
 ·omega
 ·split
  ·omega
  ·omega
theorem fst_apart {lv : List Int} {rs : List (List Nat)} (h : Rn.Runs lv rs) : ∀ j i, i < j -> j < rs.length -> Rn.fst rs i < Rn.fst rs j := by
 have step : ∀ j, j + 1 < rs.length -> Rn.fst rs j < Rn.fst rs (j + 1) := by
  intro j hj
  have h1 := (h.outer j hj).1.1
  have h2 : ∀ m, m < (Rn.rn rs j).length -> Rn.fst rs j <= (Rn.rn rs j).getD m 0 := by
   intro m
   induction m with
   | zero => intro _; exact Nat.le_refl _
   | succ m ih =>
    intro hm
    have := (h.inner j m (by omega) hm).1
    have := ih (by omega)
    omega
  have h3 := h2 ((Rn.rn rs j).length - 1) (by have := h.pos j (by omega); omega)
  have h4 : (Rn.rn rs j).getD ((Rn.rn rs j).length - 1) 0 = Rn.lst rs j := rfl
  omega
 intro j
 induction j with
 | zero => intro i hi; omega
 | succ j ih =>
  intro i hi hj
  by_cases hij : i = j
  ·subst hij; exact step i hj
  ·have := ih i (by omega) (by omega)
   have := step j hj
   omega
end Go.Proofs.YtfcoebbblfcdoaaGreatDoor

/- Sequences, of a paragraph. -/
namespace Go.Proofs.YtfcoebbblfcdoaaGreatDoor
open Go.RowKit Go.Maps
set_option linter.unusedVariables false
set_option maxHeartbeats 1000000
set_option maxRecDepth 100000
structure QI (X : World) (b : Int) (lv mt : List Int) (rs : List (List Nat)) (k : Nat) (v : Value) (wr : World) : Prop where
 so : ∃ hs, SO X.heap.size wr v hs (Rn.sqs b lv mt rs k)
 bel : Below X.heap.size X wr
theorem sequences_own (ao : Option Addr) (n cap0 : Nat) (c : List Int) (b : Int) (w : World) (h : Row .i64 w ao n cap0 c) (hn : n <= 2000) (hb : b = 0 \/ b = 1) (hF : Ex.Formed c) :
  Calls Tryz.prog 70 #[.slice ao n cap0, .int .i64 b] w fun e w' => ∃ sa cs, e = .returned (.tuple #[.slice sa (Rn.sqs b (Ex.LV b c) (Iso.MT c) (Rn.RS (Ex.LV b c)) (Rn.RS (Ex.LV b c)).length).length cs, .int .i64 0]) /\ (∃ hs, SO w.heap.size w' (.slice sa (Rn.sqs b (Ex.LV b c) (Iso.MT c) (Rn.RS (Ex.LV b c)) (Rn.RS (Ex.LV b c)).length).length cs) hs (Rn.sqs b (Ex.LV b c) (Iso.MT c) (Rn.RS (Ex.LV b c)) (Rn.RS (Ex.LV b c)).length)) /\ Below w.heap.size w w' := by
 have hlen := h.len
 have HR := hide (resolve_ok ao n cap0 c b w h (by omega) hb hF)
 have HM := hide (fun w' (hk : KO w w') => match_any ao n cap0 c w' (h.below hk) (by omega))
 have hmr := mt_range c
 rw [hlen] at hmr
 have HMR := hide hmr
 have HLL := hide (fun ao' w' (h' : Row .i64 w' ao' n n (Ex.LV b c)) => levels_any ao' n n (Ex.LV b c) w' h' (by omega))
 have hrl : (Rn.RS (Ex.LV b c)).length <= n := by
  have h1 := Rn.R_len (Ex.LV b c) (Ex.LV b c).length
  rw [Ex.LV_len] at h1
  unfold Rn.RS
  rw [Ex.LV_len, <- hlen]
  exact h1
 have HLVL := hide (show (Ex.LV b c).length = n from by rw [Ex.LV_len, hlen])
 generalize Ex.LV b c = lv at *
 generalize Iso.MT c = mt at *
 have hR := Rn.runs_of lv
 have hfb : ∀ j, j < (Rn.RS lv).length -> Rn.fst (Rn.RS lv) j <= 17592186044416 := fun j hj => by
  have := (hR.kept j 0 hj (hR.pos j hj)).1
  rw [HLVL.out] at this
  have e : (Rn.rn (Rn.RS lv) j).getD 0 0 = Rn.fst (Rn.RS lv) j := rfl
  omega
 have hfd : ∀ i j, i < j -> j < (Rn.RS lv).length -> ¬ Rn.fst (Rn.RS lv) i = Rn.fst (Rn.RS lv) j := fun i j hij hj e => by have := fst_apart hR j i hij hj; omega
 have HFI := hide (fun ao' cap' w' (h' : LL w' ao' (Rn.RS lv).length cap' (Rn.RS lv)) => firsts_any ao' (Rn.RS lv).length cap' (Rn.RS lv) w' h' (by omega) hR.pos hfb hfd)
 have HPOS := hide hR.pos
 have HMK := hide (fun (W W5 : World) (bl bm : Nat) (aoo : Option Addr) (capp : Nat) => PG.make (w := w) (W := W) (W5 := W5) (b := b) (lv := lv) (mt := mt) (bl := bl) (bm := bm) (n := n) (ao := aoo) (cap := capp))
 have hbp := build_para
 have hbs := build_seq1
 obtain ⟨ii, hii, hy0, hy1, hy2⟩ := info_parts seqInfo3
 have HII := hide hii
 have HY0 := hide hy0
 have HY1 := hide hy1
 have HY2 := hide hy2
 generalize Rn.RS lv = rs at *
 generalize hNN : rs.length = N at *
 have HNN := hide hNN
 clear h hF hR hfb hfd hmr hii hy0 hy1 hy2 hNN hlen hb
 go_enter Tryz.func70, Tryz.ntmps70
 go_wp2_with fail
 refine HR.out.mono ?_
 rintro e w1 ⟨bl, bt, rfl, rl, rt, hb1⟩
 have HM1 := hide (HM.out w1 hb1)
 have HB1 := hide hb1
 have HRL := hide rl
 clear rl rt hb1 HR HM
 go_wp2_with fail
 refine HM1.out.mono ?_
 rintro e w2 ⟨rfl, hom, hb2⟩
 have HRM := hide (row_owned hom)
 have HRL2 := hide (HRL.out.below hb2)
 have HB2 := hide (KO.on HB1.out hb2)
 have HL2 := hide (HLL.out _ w2 HRL2.out)
 clear hom hb2 HM1 HB1 HRL
 go_wp2_with fail
 refine HL2.out.mono ?_
 rintro e w3 ⟨v, rfl, ⟨vs, hlo⟩, hb3⟩
 obtain ⟨a3, cap3, rfl, ll⟩ := hlo.view (by rw [HNN.out]; exact HPOS.out)
 rw [HNN.out] at ll ⊢
 have rl3 := HRL2.out.below hb3
 have rm3 := HRM.out.below hb3
 have HB3 := hide (KO.on HB2.out hb3)
 have hsz4 : ∀ o : Obj, (w3.alloc o).heap.size = w3.heap.size + 1 := fun o => by simp
 have HF4 := hide (fun o => HFI.out a3 cap3 (w3.alloc o) (ll.below ((Below.refl _ _).alloc (Nat.le_refl _) o)))
 have HMK4 := hide (fun W5 => HMK.out w3 W5 bl w1.heap.size a3 cap3 rl3 rm3 ll hn)
 clear hlo hb3 HRL2 HRM HB2 HL2 HLL HMK HFI rl3 rm3 ll
 go_wp2_with fail
 refine (HF4.out _).mono ?_
 rintro e w5 ⟨rfl, hmap, hb5⟩
 rw [hsz4] at hmap hb5 ⊢
 obtain ⟨hpg, c3, c4, f4, hbx⟩ := HMK4.out w5 hb5 hmap
 obtain ⟨X, hX⟩ : ∃ X, w5.setCell ⟨w3.heap.size, 4, none⟩ (.map (some (w3.heap.size + 1))) = X := ⟨_, rfl⟩
 rw [hX] at hpg hbx
 generalize hpp : w3.heap.size = p at *
 have HPG := hide hpg
 have HBX := hide (show KO w X from HB3.out.on (by rw [hpp]; exact hbx))
 have x3 := hpg.c3
 have hN2 := hpg.le
 clear hmap hb5 HMK4 HF4 hpg hbx HB3 hpp hsz4
 go_wp2
 go_loopw [10, 43] (fun v i wr => ∃ k : Nat, k <= N /\ i = .int .i64 (k : Int) /\ Hid (QI X b lv mt rs k v wr)) (fun _ i _ => N - (intOf i).toNat)
 case atStart => exact ⟨0, Nat.zero_le _, rfl, hide ⟨⟨[], SO.begin _ _⟩, Below.refl _ _⟩⟩
 case round =>
  obtain ⟨k, hk, rfl, hm⟩ := hrel
  obtain ⟨⟨hs, hso⟩, hbw⟩ := hm.out
  obtain ⟨av, cv, rfl, hav⟩ := owns_form hso.oa
  have HSO := hide hso
  have HBW := hide hbw
  have hsl := Rn.sqs_len b lv mt rs k
  by_cases hlt : k < N
  ·have hpw := HPG.out.below hbw
   have HBE := hide (begins_any hpw hlt)
   have HSE := hide (sequence_any hpw HMR.out hlt)
   have hin : (k : Int) < (N : Int) := by omega
   have hszX : X.heap.size <= wr.heap.size := hbw.size
   cases hbg : Rn.bg mt rs k with
   | false =>
    rw [hbg] at HBE
    have HQ : Hid (QI X b lv mt rs (k + 1) (.slice av (Rn.sqs b lv mt rs k).length cv) wr) := ⟨⟨hs, by rw [Rn.sqs_no hbg]; exact hso⟩, hbw⟩
    clear hm hso hbw hpw hbg HSE HSO
    generalize (Rn.sqs b lv mt rs k).length = L at *
    go_wp2_with (go_at_call 112; refine HBE.out.mono ?_; rintro e w' ⟨rfl, rfl⟩)
    go_roundw
    case rel => exact ⟨k + 1, by omega, by go_num, HQ⟩
    case measure => simp [intOf]; omega
   | true =>
    rw [hbg] at HBE
    have HSY := hide (Rn.sqs_yes (b := b) (lv := lv) hbg)
    have hsq : Rn.sq b lv mt rs k = ⟨Rn.plc rs (Rn.chn (Rn.fo mt rs) (N - k) k), Rn.lvl lv rs k, Rn.sd (Rn.lvl lv rs k) (Rn.ah b lv rs k), Rn.sd (Rn.lvl lv rs k) (Rn.bh b lv mt rs (Rn.ltc (Rn.fo mt rs) (N - k) k))⟩ := by unfold Rn.sq; rw [HNN.out]
    rw [hsq] at HSY
    have HOA := hide hso.oa
    generalize Rn.plc rs (Rn.chn (Rn.fo mt rs) (N - k) k) = ps at *
    generalize Rn.sd (Rn.lvl lv rs k) (Rn.ah b lv rs k) = y at *
    generalize Rn.sd (Rn.lvl lv rs k) (Rn.bh b lv mt rs (Rn.ltc (Rn.fo mt rs) (N - k) k)) = z at *
    generalize Rn.lvl lv rs k = x at *
    generalize hLL : (Rn.sqs b lv mt rs k).length = L at *
    have HLE := hide hLL
    have hpx : ∀ (w' : World) (hb' : Below wr.heap.size wr w'), SO X.heap.size w' (.slice av L cv) hs (Rn.sqs b lv mt rs k) := fun w' hb' => HSO.out.below hb'
    have HPX := hide hpx
    clear hm hso hbw hpw hbg hsq hLL hpx
    go_wp2_with (first
     | (go_at_call 112; refine HBE.out.mono ?_; rintro e w' ⟨rfl, rfl⟩)
     | (go_at_call 113; refine HSE.out.mono ?_; rintro e w6 ⟨g6, c6, rfl, how6, hb6⟩; have hs6 := HPX.out w6 hb6; have hz6 := hb6.size)
     | (at_builtin; refine wpList_append_own_at _ rfl (.tmp 49) (.tmp 53) 72 rfl X.heap.size 77 ii _ 4 48 Tryz.underlying72 HII.out HY0.out HY1.out HY2.out rfl (by decide) (.slice av L cv) L (scs hs (Rn.sqs b lv mt rs k)) rfl (show (w6.alloc (.cells (sc (g6, c6) ⟨ps, x, y, z⟩).toArray 77)).ownsRow X.heap.size 77 4 (.slice av L cv) L (scs hs (Rn.sqs b lv mt rs k)) from (by rw [<- HLE.out]; rw [<- HLE.out] at hs6; exact hs6.oa.alloc _)) ⟨w6.heap.size, 0, none⟩ 1 1 (sc (g6, c6) ⟨ps, x, y, z⟩) rfl rfl (cells_new w6 (sc (g6, c6) ⟨ps, x, y, z⟩) 77) (sc_one _ _) (by unfold maxLen; omega) (by omega) (by simp; omega) ?_; intro v7 w7 ho7 hg7 _ _; obtain ⟨g7, c7, rfl, _, _⟩ := owns_pos ho7 (by omega)))
    go_roundw
    case rel =>
     refine ⟨k + 1, by omega, by go_num, hide ⟨⟨hs ++ [(g6, c6)], ?_⟩, ?_⟩⟩
     ·rw [HSY.out]
      refine (hs6.below ((Below.refl _ _).alloc (Nat.le_refl _) _)).push (s := ⟨ps, x, y, z⟩) (owns_below (owns_mono how6 hszX) ((Below.refl _ _).alloc (Nat.le_refl _) _)) ?_ hg7
      rw [HLE.out]
      exact ho7
     ·exact grown_alloc (HBW.out.trans (hb6.mono hszX)) (by omega) hg7 (fun q hq => (HOA.out.lt q hq).1)
    case measure => simp [intOf]; omega
  ·obtain rfl : k = N := by omega
   have hne : ¬ ((k : Int) < (k : Int)) := by omega
   have HSL := hide (show ∃ hs, SO w.heap.size wr (.slice av (Rn.sqs b lv mt rs k).length cv) hs (Rn.sqs b lv mt rs k) from ⟨hs, hso.mono HBX.out.size⟩)
   have HB := hide (KO.on HBX.out hbw)
   clear hm hso hbw hlt HSO HBW hav
   generalize hLL : (Rn.sqs b lv mt rs k).length = L at *
   have HLE := hide hLL
   clear hLL
   go_wp2
   go_ret2
   have hq := HLE.out
   subst hq
   exact ⟨av, cv, rfl, HSL.out, HB.out⟩
end Go.Proofs.YtfcoebbblfcdoaaGreatDoor
