/- Two rows of numbers that grow by one number a time. -/
import Derived.Test.YtanoifkegfalgaaTwo
namespace Go.Proofs.Ytanoifkegfalgaa
open Go.RowKit
set_option linter.unusedVariables false
/-- Behind an append to one of them: its row is the one that it was, or a new one. -/
theorem J2.step' {e : TypeId} {w0 w : World} {va : Value} {na : Nat} {xa : List Int} {vb : Value} {nb : Nat} {xb : List Int} (h : J2 e w0 w va na xa vb nb xb) {w' : World} {v' : Value} {n' : Nat} {xs : List Int} (ho : w'.ownsRow w0.heap.size e 1 v' n' (xs.map (Value.int .i64))) (hg : w.grownBy w' va.ownBlock) (hb : v'.ownBlock = va.ownBlock ∨ ∃ g, v'.ownBlock = some g ∧ w.heap.size ≤ g) : J2 e w0 w' v' n' xs vb nb xb := by
  refine ⟨ho, ?_, ?_, ?_⟩
  · refine h.ob.kept hg ?_
    cases hv : vb.ownBlock with
    | none => exact .inl rfl
    | some g => exact .inr (fun h1 => h.ne g h1.symm hv)
  · intro g h1 h2
    rcases hb with hb | ⟨g', hb, hg'⟩
    · rw [hb] at h1; exact h.ne g h1 h2
    · rw [hb] at h1
      have := (h.ob.lt g h2).2
      simp at h1
      omega
  · exact h.bel.grown hg h.bel.size (fun j hj => (h.oa.lt j hj).1)
/-- One number more. -/
theorem run_append_j2 {P : Program} {e : TypeId} {w0 w : World} {va : Value} {na : Nat} {xa : List Int} {vb : Value} {nb : Nat} {xb : List Int} (hJ : J2 e w0 w va na xa vb nb xb) (t ty : TypeId) (i : TypeInfo) (z : Value) (ht : P.underlying t = some (.slice e)) (hi : P.info? e = some i) (hz : i.zero = some z) (hsize : i.size = 1) (hby : i.bytes = 8) (hzs : z.cells.size = 1)
    (ad : Addr) (y : Int) (hrow : Row .i64 w (some ad) 1 1 [y]) (hn : (na + 1) * 8 ≤ 140737488355328) :
    ∃ g cp w', (Builtin.append_ #[t, t] ty #[va, .slice (some ad) 1 1]).run P w = .ok (.slice (some ⟨g, 0, none⟩) (na + 1) cp) w' ∧ J2 e w0 w' (.slice (some ⟨g, 0, none⟩) (na + 1) cp) (na + 1) (xa ++ [y]) vb nb xb := by
  rcases hJ.oa.2 with ⟨rfl, rfl⟩ | ⟨g, cap, cur, rfl, _⟩
  · have hxa : xa = [] := by have := hJ.oa.1; simpa using this
    subst hxa
    have hnews : ∀ j u, ([y].map (Value.int .i64))[j]? = some u → w.cell? (ad.add j) = some u := by
      intro j u hj
      obtain ⟨b, off, e1, _, hc⟩ := hrow.cells (by omega)
      simp only [Option.some.injEq] at e1
      subst e1
      match j, hj with
      | 0, hj =>
        simp at hj
        subst hj
        have hadd : (⟨b, off, none⟩ : Addr).add 0 = ⟨b, off + 0, none⟩ := by unfold Addr.add; split <;> simp_all
        rw [hadd]
        exact hc 0 (by simp)
      | j + 1, hj => simp at hj
    obtain ⟨v', w', hr, h2, h3, _⟩ := run_append_own (P := P) w w.heap.size t ty e i z 1 8 ht hi hz hsize hby hzs (by decide) (.slice none 0 0) 0 [] (World.ownsRow_nil _ _ _ _) ad 1 1 ([y].map (Value.int .i64)) (by simp) hnews (ints_oneCell .i64 [y]) (by unfold maxLen; omega) (by omega) (Nat.le_refl _)
    rcases h2.2 with ⟨_, h0⟩ | ⟨g', cp, cur, rfl, hb, _⟩
    · omega
    exact ⟨g', cp, w', hr, hJ.step' (owns_mono (by simpa using h2) hJ.bel.size) h3 (.inr ⟨g', rfl, hb⟩)⟩
  · obtain ⟨v', w', hr, h2, h3, h4⟩ := run_append_at (P := P) w w0.heap.size t ty e i z ht hi hz hsize hby hzs g na cap xa hJ.oa ad 1 1 [y] hrow (by omega) (by omega) hJ.bel.size
    have hj := hJ.step h2 h3 h4
    rcases h2.2 with ⟨_, h0⟩ | ⟨g', cp, cur, rfl, _⟩
    · omega
    exact ⟨g', cp, w', hr, hj⟩
theorem wpList_j2 {P : Program} {ops : Array Oper} {rest : List Oper} {o : Oper} {a : Act} {Q : Exit → Act → World → Prop} {e : TypeId} {w0 w : World} {va : Value} {na : Nat} {xa : List Int} {vb : Value} {nb : Nat} {xb : List Int} (hJ : J2 e w0 w va na xa vb nb xb) (hgd : o.guard = none) (s x : Operand) (t : TypeId)
    (ho : o.op = .call { callee := .builtin .append, args := #[s, x], argTypes := #[t, t] }) (i : TypeInfo) (z : Value) (ht : P.underlying t = some (.slice e)) (hi : P.info? e = some i) (hz : i.zero = some z) (hsize : i.size = 1) (hby : i.bytes = 8) (hzs : z.cells.size = 1)
    (hs : a.eval s = va) (ad : Addr) (y : Int) (hx : a.eval x = .slice (some ad) 1 1) (hrow : Row .i64 w (some ad) 1 1 [y]) (hn : (na + 1) * 8 ≤ 140737488355328)
    (h : ∀ g cp w', J2 e w0 w' (.slice (some ⟨g, 0, none⟩) (na + 1) cp) (na + 1) (xa ++ [y]) vb nb xb → wpList P ops Q rest (a.put o.dst (.slice (some ⟨g, 0, none⟩) (na + 1) cp)) w') : wpList P ops Q (o :: rest) a w :=
  wpList_plain hgd fun K hK => by
    obtain ⟨g, cp, w', hr, h2⟩ := run_append_j2 (P := P) hJ t o.type i z ht hi hz hsize hby hzs ad y hrow hn
    unfold Oper.wp execOp
    simp only [ho, resolve, invoke, builtin, Sem.run_bind, Sem.run_pure, Result.andThen_ok, List.map_toArray, List.map_cons, List.map_nil, hs, hx, hr]
    exact hK _ _ (h g cp w' h2)
end Go.Proofs.Ytanoifkegfalgaa
