/- Two rows of numbers that a call makes beside one another, in whatever order: 'append(append([]int{}, p...), q...)' twice in one statement that draws its order. -/
import Derived.Test.YtanoifkegfalgaaCopy
import Derived.Test.YtanoifkegfalgaaKeep
import Derived.Laws.AppendOwn
namespace Go.Proofs.Ytanoifkegfalgaa
open Go.RowKit
set_option linter.unusedVariables false
structure J2 (e : TypeId) (w0 w : World) (va : Value) (na : Nat) (xa : List Int) (vb : Value) (nb : Nat) (xb : List Int) : Prop where
  oa : w.ownsRow w0.heap.size e 1 va na (xa.map (Value.int .i64))
  ob : w.ownsRow w0.heap.size e 1 vb nb (xb.map (Value.int .i64))
  ne : ∀ g, va.ownBlock = some g → ¬ vb.ownBlock = some g
  bel : Below w0.heap.size w0 w
section
variable {e : TypeId} {w0 w : World} {va : Value} {na : Nat} {xa : List Int} {vb : Value} {nb : Nat} {xb : List Int}
theorem J2.symm (h : J2 e w0 w va na xa vb nb xb) : J2 e w0 w vb nb xb va na xa := ⟨h.ob, h.oa, fun g h1 h2 => h.ne g h2 h1, h.bel⟩
theorem J2.below (h : J2 e w0 w va na xa vb nb xb) {w' : World} (hb : Below w.heap.size w w') : J2 e w0 w' va na xa vb nb xb := ⟨owns_below h.oa hb, owns_below h.ob hb, h.ne, KO.on h.bel hb⟩
theorem J2.begin (w : World) : J2 e w w (.slice none 0 0) 0 [] (.slice none 0 0) 0 [] := ⟨World.ownsRow_nil _ _ _ _, World.ownsRow_nil _ _ _ _, fun g h => by simp [Value.ownBlock] at h, Below.refl _ _⟩
/-- Behind an append to one of them. -/
theorem J2.step (h : J2 e w0 w va na xa vb nb xb) {w' : World} {v' : Value} {n' : Nat} {xs : List Int} (ho : w'.ownsRow w0.heap.size e 1 v' n' (xs.map (Value.int .i64))) (hg : w.grownBy w' va.ownBlock) (hb : v'.ownBlock = va.ownBlock ∨ v'.ownBlock = some w.heap.size) : J2 e w0 w' v' n' xs vb nb xb := by
  refine ⟨ho, ?_, ?_, ?_⟩
  · refine h.ob.kept hg ?_
    cases hv : vb.ownBlock with
    | none => exact .inl rfl
    | some g => exact .inr (fun h1 => h.ne g h1.symm hv)
  · intro g h1 h2
    rcases hb with hb | hb
    · rw [hb] at h1; exact h.ne g h1 h2
    · rw [hb] at h1
      have := (h.ob.lt g h2).2
      simp at h1
      omega
  · exact h.bel.grown hg h.bel.size (fun j hj => (h.oa.lt j hj).1)
end
/-- An append, and where its row lies. -/
theorem run_append_at {P : Program} (w : World) (base : Nat) (t ty e : TypeId) (i : TypeInfo) (z : Value) (ht : P.underlying t = some (.slice e)) (hi : P.info? e = some i) (hz : i.zero = some z) (hsize : i.size = 1) (hby : i.bytes = 8) (hzs : z.cells.size = 1)
    (g n cap : Nat) (xs : List Int) (hown : w.ownsRow base e 1 (.slice (some ⟨g, 0, none⟩) n cap) n (xs.map (Value.int .i64)))
    (ad : Addr) (m c : Nat) (zs : List Int) (hrow : Row .i64 w (some ad) m c zs) (hm : 0 < m) (hn : (n + m) * 8 ≤ 140737488355328) (hbase : base ≤ w.heap.size) :
    ∃ v' w', (Builtin.append_ #[t, t] ty #[.slice (some ⟨g, 0, none⟩) n cap, .slice (some ad) m c]).run P w = .ok v' w' ∧ w'.ownsRow base e 1 v' (n + m) ((xs ++ zs).map (Value.int .i64)) ∧ w.grownBy w' (some g) ∧ (v'.ownBlock = some g ∨ v'.ownBlock = some w.heap.size) := by
  have hnews : ∀ j u, (zs.map (Value.int .i64))[j]? = some u → w.cell? (ad.add j) = some u := by
    intro j u hj
    have hjl : j < zs.length := by
      have := (List.getElem?_eq_some_iff.1 hj).1
      simpa using this
    have hl := hrow.len
    obtain ⟨b, off, e1, _, hc⟩ := hrow.cells (by omega)
    simp only [Option.some.injEq] at e1
    subst e1
    have hadd : (⟨b, off, none⟩ : Addr).add j = ⟨b, off + j, none⟩ := by unfold Addr.add; split <;> simp_all
    rw [hadd, hc j hjl]
    rw [List.getElem?_map, List.getElem?_eq_getElem hjl] at hj
    simp only [Option.map_some, Option.some.injEq] at hj
    rw [← hj]
    simp [List.getD, List.getElem?_eq_getElem hjl]
  have hlen : (zs.map (Value.int .i64)).length = m * 1 := by simp [hrow.len]
  obtain ⟨v', w', hr, h2, h3, _⟩ := run_append_own (P := P) w base t ty e i z 1 8 ht hi hz hsize hby hzs (by decide) (.slice (some ⟨g, 0, none⟩) n cap) n _ hown ad m c (zs.map (Value.int .i64)) hlen hnews (ints_oneCell .i64 zs) (by unfold maxLen; omega) (by omega) hbase
  rw [← List.map_append] at h2
  refine ⟨v', w', hr, h2, h3, ?_⟩
  have ho := hown
  rcases ho.2 with ⟨h0, _⟩ | ⟨g', cap', cur, hv, hbg, hg, hnc, hcm, hcs, htake⟩
  · cases h0
  · cases hv
    by_cases hroom : n + m ≤ cap
    · have hfit : n * i.size + (zs.map (Value.int .i64)).length ≤ cur.size := by rw [hsize, hcs]; simp [hrow.len]; omega
      have hq := run_append_room (P := P) w t ty e i ht hi g n cap cur hg ad m c (zs.map (Value.int .i64)) (by rw [hsize]; exact hlen) hnews (ints_oneCell .i64 zs) hroom hfit
      rw [hq] at hr
      simp only [Result.ok.injEq] at hr
      left
      rw [← hr.1]
      rfl
    · have holds : ∀ j x, (xs.map (Value.int .i64))[j]? = some x → w.cell? ((⟨g, 0, none⟩ : Addr).add j) = some x := hown.cells (g := g) rfl
      have hq := run_append_grow (P := P) w t ty e i z ht hi hz ⟨g, 0, none⟩ n cap (xs.map (Value.int .i64)) (by rw [hsize]; exact hown.1) holds ad m c (zs.map (Value.int .i64)) (by rw [hsize]; exact hlen) hnews (by omega) (by omega) (growslice_fits (by omega) (by rw [hby]; omega))
      rw [hq] at hr
      simp only [Result.ok.injEq] at hr
      right
      rw [← hr.1]
      rfl
/-- An append to a slice without room, of whose block nothing is known. -/
theorem run_append_first {P : Program} (w : World) (t ty e : TypeId) (i : TypeInfo) (z : Value) (ht : P.underlying t = some (.slice e)) (hi : P.info? e = some i) (hz : i.zero = some z) (hsize : i.size = 1) (hby : i.bytes = 8) (hzs : z.cells.size = 1)
    (ag : Addr) (ad : Addr) (m c : Nat) (zs : List Int) (hrow : Row .i64 w (some ad) m c zs) (hm : 0 < m) (hn : m ≤ 100000) (base : Nat) (hbase : base ≤ w.heap.size) :
    ∃ v' w', (Builtin.append_ #[t, t] ty #[.slice (some ag) 0 0, .slice (some ad) m c]).run P w = .ok v' w' ∧ w'.ownsRow base e 1 v' m (zs.map (Value.int .i64)) ∧ w.grownBy w' none ∧ v'.ownBlock = some w.heap.size := by
  have hnews : ∀ j u, (zs.map (Value.int .i64))[j]? = some u → w.cell? (ad.add j) = some u := by
    intro j u hj
    have hjl : j < zs.length := by
      have := (List.getElem?_eq_some_iff.1 hj).1
      simpa using this
    have hl := hrow.len
    obtain ⟨b, off, e1, _, hc⟩ := hrow.cells (by omega)
    simp only [Option.some.injEq] at e1
    subst e1
    have hadd : (⟨b, off, none⟩ : Addr).add j = ⟨b, off + j, none⟩ := by unfold Addr.add; split <;> simp_all
    rw [hadd, hc j hjl]
    rw [List.getElem?_map, List.getElem?_eq_getElem hjl] at hj
    simp only [Option.map_some, Option.some.injEq] at hj
    rw [← hj]
    simp [List.getD, List.getElem?_eq_getElem hjl]
  have hlen : (zs.map (Value.int .i64)).length = m * 1 := by simp [hrow.len]
  have hq := run_append_grow (P := P) w t ty e i z ht hi hz ag 0 0 [] (by simp) (by simp) ad m c (zs.map (Value.int .i64)) (by rw [hsize]; exact hlen) hnews (by omega) (by omega) (growslice_fits (by omega) (by rw [hby]; omega))
  have hge := grownCap_ge w (0 + m) 0 e
  have hml : grownCap w (0 + m) 0 e ≤ maxLen := grownCap_le_maxLen w (0 + m) 0 e (by unfold maxLen; omega)
  refine ⟨_, _, hq, ⟨by simp [hrow.len], .inr ⟨w.heap.size, grownCap w (0 + m) 0 e, _, by simp, hbase, heap_alloc_new w.drew _, by omega, hml, ?_, ?_⟩⟩, ⟨rfl, rfl, rfl, by simp, fun k hk _ => Below.heap_alloc w.drew _ k hk⟩, rfl⟩
  · simp only [Array.size_append, List.size_toArray, size_zeroCells, hzs, List.length_map, hrow.len, List.length_nil]
    omega
  · simp only [Array.toList_append, List.nil_append]
    rw [List.take_append_of_le_length (by simp [hrow.len])]
    rw [List.take_of_length_le (by simp [hrow.len])]
section
variable {P : Program} {ops : Array Oper} {o : Oper} {a : Act} {K : Act → World → Prop} {Q : Exit → Act → World → Prop} {E : Prop}
theorem step_first {e : TypeId} {w0 w : World} {vb : Value} {nb : Nat} {xb : List Int} (hJ : J2 e w0 w (.slice none 0 0) 0 [] vb nb xb) (hgd : o.guard = none) (s x : Operand) (t : TypeId)
    (ho : o.op = .call { callee := .builtin .append, args := #[s, x], argTypes := #[t, t] }) (i : TypeInfo) (z : Value) (ht : P.underlying t = some (.slice e)) (hi : P.info? e = some i) (hz : i.zero = some z) (hsize : i.size = 1) (hby : i.bytes = 8) (hzs : z.cells.size = 1)
    (ag ad : Addr) (hs : a.eval s = .slice (some ag) 0 0) (m c : Nat) (zs : List Int) (hx : a.eval x = .slice (some ad) m c) (hrow : Row .i64 w0 (some ad) m c zs) (hm : 0 < m) (hn : m ≤ 100000)
    (h : ∀ g cp w', J2 e w0 w' (.slice (some ⟨g, 0, none⟩) m cp) m zs vb nb xb → K (a.put o.dst (.slice (some ⟨g, 0, none⟩) m cp)) w') :
    if Region.wanted o (yielded ops a.tmps) = true then Oper.wp P o a w K Q else E := by
  have hw : Region.wanted o (yielded ops a.tmps) = true := by simp [Region.wanted, hgd]
  rw [if_pos hw]
  obtain ⟨v', w', hr, h2, h3, h4⟩ := run_append_first (P := P) w t o.type e i z ht hi hz hsize hby hzs ag ad m c zs (hrow.below hJ.bel) hm hn w0.heap.size hJ.bel.size
  have hj : J2 e w0 w' v' m zs vb nb xb := hJ.step h2 h3 (.inr h4)
  rcases h2.2 with ⟨_, h0⟩ | ⟨g, cp, cur, rfl, _⟩
  · omega
  unfold Oper.wp execOp
  simp only [ho, resolve, invoke, builtin, Sem.run_bind, Sem.run_pure, Result.andThen_ok, List.map_toArray, List.map_cons, List.map_nil, hs, hx, hr]
  exact h g cp w' hj
theorem step_next {e : TypeId} {w0 w : World} {g n cap : Nat} {xa : List Int} {vb : Value} {nb : Nat} {xb : List Int} (hJ : J2 e w0 w (.slice (some ⟨g, 0, none⟩) n cap) n xa vb nb xb) (hgd : o.guard = none) (s x : Operand) (t : TypeId)
    (ho : o.op = .call { callee := .builtin .append, args := #[s, x], argTypes := #[t, t] }) (i : TypeInfo) (z : Value) (ht : P.underlying t = some (.slice e)) (hi : P.info? e = some i) (hz : i.zero = some z) (hsize : i.size = 1) (hby : i.bytes = 8) (hzs : z.cells.size = 1)
    (ad : Addr) (hs : a.eval s = .slice (some ⟨g, 0, none⟩) n cap) (m c : Nat) (zs : List Int) (hx : a.eval x = .slice (some ad) m c) (hrow : Row .i64 w0 (some ad) m c zs) (hm : 0 < m) (hn : n + m ≤ 100000)
    (h : ∀ g cp w', J2 e w0 w' (.slice (some ⟨g, 0, none⟩) (n + m) cp) (n + m) (xa ++ zs) vb nb xb → K (a.put o.dst (.slice (some ⟨g, 0, none⟩) (n + m) cp)) w') :
    if Region.wanted o (yielded ops a.tmps) = true then Oper.wp P o a w K Q else E := by
  have hw : Region.wanted o (yielded ops a.tmps) = true := by simp [Region.wanted, hgd]
  rw [if_pos hw]
  obtain ⟨v', w', hr, h2, h3, h4⟩ := run_append_at (P := P) w w0.heap.size t o.type e i z ht hi hz hsize hby hzs g n cap xa hJ.oa ad m c zs (hrow.below hJ.bel) hm (by omega) hJ.bel.size
  have hj : J2 e w0 w' v' (n + m) (xa ++ zs) vb nb xb := hJ.step h2 h3 h4
  rcases h2.2 with ⟨_, h0⟩ | ⟨g', cp, cur, rfl, _⟩
  · omega
  unfold Oper.wp execOp
  simp only [ho, resolve, invoke, builtin, Sem.run_bind, Sem.run_pure, Result.andThen_ok, List.map_toArray, List.map_cons, List.map_nil, hs, hx, hr]
  exact h g' cp w' hj
end
end Go.Proofs.Ytanoifkegfalgaa
