/- A row of the call's own whose cells are all addresses or lists: what an append does to it, and that ropes and lists stay. -/
import Derived.Test.YteiljaecaahonaaPlay
namespace Go.Proofs.Yteiljaecaahonaa
open Go.RowKit
set_option linter.unusedVariables false
/-- An address, or a list. -/
def pv : Value → Bool
  | .pointer _ => true
  | .slice _ _ _ => true
  | _ => false
/-- A row of the call's own, of one cell each, all of whose cells, spare ones too, are addresses or lists. -/
def Own1 (w : World) (base : Nat) (e : TypeId) (v : Value) (xs : List Value) : Prop :=
  ∃ g cap cur, v = .slice (some ⟨g, 0, none⟩) xs.length cap ∧ base ≤ g ∧ w.heap[g]? = some (.cells cur e (0, 0)) ∧ xs.length ≤ cap ∧ cap ≤ maxLen ∧ cur.size = cap ∧ cur.toList.take xs.length = xs ∧ ∀ c ∈ cur.toList, pv c = true
theorem Own1.owns {w : World} {base : Nat} {e : TypeId} {v : Value} {xs : List Value} (h : Own1 w base e v xs) : w.ownsRow base e 1 v xs.length xs := by
  obtain ⟨g, cap, cur, rfl, h1, h2, h3, h4, h5, h6, h7⟩ := h
  exact ⟨by simp, .inr ⟨g, cap, cur, rfl, h1, h2, h3, h4, by simpa using h5, by simpa using h6⟩⟩
theorem Own1.below {w w' : World} {base : Nat} {e : TypeId} {v : Value} {xs : List Value} (h : Own1 w base e v xs) (hb : Below w.heap.size w w') : Own1 w' base e v xs := by
  obtain ⟨g, cap, cur, rfl, h1, h2, h3⟩ := h
  exact ⟨g, cap, cur, rfl, h1, (hb.block g (Array.getElem?_eq_some_iff.1 h2).1).trans h2, h3⟩
theorem Own1.kept {w w' : World} {base : Nat} {e : TypeId} {v : Value} {xs : List Value} {row : Option Nat} (h : Own1 w base e v xs) (hg : w.grownBy w' row) (hne : v.ownBlock ≠ row) : Own1 w' base e v xs := by
  obtain ⟨g, cap, cur, rfl, h1, h2, h3⟩ := h
  exact ⟨g, cap, cur, rfl, h1, (hg.block g (Array.getElem?_eq_some_iff.1 h2).1 hne).trans h2, h3⟩
theorem Own1.alloc {w : World} {base : Nat} {e : TypeId} {v : Value} {xs : List Value} (h : Own1 w base e v xs) (o : Obj) : Own1 (w.alloc o) base e v xs := h.below ((Below.refl _ _).alloc (Nat.le_refl _) _)
theorem own1_new (w : World) (base : Nat) (e : TypeId) (u : Value) (hb : base ≤ w.heap.size) (hu : pv u = true) : Own1 (w.alloc (.cells #[u] e)) base e (.slice (some ⟨w.heap.size, 0, none⟩) 1 1) [u] :=
  ⟨w.heap.size, 1, #[u], rfl, hb, World.alloc_heap_new _ _, Nat.le_refl _, by unfold maxLen; omega, rfl, rfl, by simpa using hu⟩
theorem Own1.cell {w : World} {base : Nat} {e : TypeId} {v : Value} {xs : List Value} (h : Own1 w base e v xs) : ∃ g cap, v = .slice (some ⟨g, 0, none⟩) xs.length cap ∧ base ≤ g ∧ g < w.heap.size ∧ xs.length ≤ cap ∧ (∀ q u, w.cell? ⟨g, q, none⟩ = some u → pv u = true) ∧ ∀ q, q < xs.length → w.cell? ⟨g, q, none⟩ = xs[q]? := by
  have ho := h.owns
  obtain ⟨g, cap, cur, rfl, h1, h2, h3, h4, h5, h6, h7⟩ := h
  refine ⟨g, cap, rfl, h1, (Array.getElem?_eq_some_iff.1 h2).1, h3, fun q u hu => ?_, fun q hq => ho.cellAt q (by omega)⟩
  have : cur[q]? = some u := by simpa [World.cell?, h2] using hu
  refine h7 u ?_
  have h8 : cur.toList[q]? = some u := by simpa using this
  exact List.mem_of_getElem? h8
/-- A rope and its list stay where a row of addresses or lists is written. -/
theorem lies_grown {w w' : World} {g : Nat} {t : Tr} (h : Lies w t) (hg : w.grownBy w' (some g)) (hp : ∀ q u, w.cell? ⟨g, q, none⟩ = some u → pv u = true) : Lies w' t := by
  induction t with
  | nil => trivial
  | node d l x r ihl ihr =>
    obtain ⟨c0, c1, c2, c3, c4, c5, hl, hr⟩ := h
    have hne : d ≠ g := fun e => by subst e; have := hp _ _ c2; cases this
    have k : ∀ q v, w.cell? ⟨d, q, none⟩ = some v → w'.cell? ⟨d, q, none⟩ = some v := fun q v hv => hg.cell hv (by simpa using hne)
    exact ⟨k _ _ c0, k _ _ c1, k _ _ c2, k _ _ c3, k _ _ c4, k _ _ c5, ihl hl, ihr hr⟩
theorem Ent.ok.grown {w w' : World} {g : Nat} {e : Ent} (h : e.ok w) (hg : w.grownBy w' (some g)) (hp : ∀ q u, w.cell? ⟨g, q, none⟩ = some u → pv u = true) : e.ok w' := by
  have hne : e.b ≠ g := fun q => by have h1 := h.rope.made; rw [q] at h1; have := hp _ _ h1; cases this
  refine ⟨⟨hg.cell h.rope.made (by simpa using hne), hg.cell h.rope.top (by simpa using hne), lies_grown h.rope.lies hg hp, h.rope.bal⟩, ⟨h.row.len, h.row.le, h.row.max, fun h0 => ?_, h.row.nil⟩, h.wf, h.same⟩
  obtain ⟨b, off, e1, e2, e3⟩ := h.row.cells h0
  have hl := h.row.len
  have hnb : b ≠ g := fun q => by subst q; have := hp _ _ (e3 0 (by omega)); cases this
  exact ⟨b, off, e1, Nat.lt_of_lt_of_le e2 hg.size, fun i hi => hg.cell (e3 i hi) (by simpa using hnb)⟩
theorem run_append1 {P : Program} (w : World) (base : Nat) (t ty e : TypeId) (i : TypeInfo) (z : Value) (ht : P.underlying t = some (.slice e)) (hi : P.info? e = some i) (hz : i.zero = some z) (hsize : i.size = 1) (hby : i.bytes ≤ 24) (hzc : z.cells = #[z]) (hzp : pv z = true)
    (v : Value) (xs : List Value) (hown : Own1 w base e v xs) (ad : Addr) (u : Value) (hu : w.cell? ad = some u) (hup : pv u = true) (h1 : u.oneCell' = true) (hn : xs.length ≤ 1000) (hbase : base ≤ w.heap.size) :
    ∃ v' w', (Builtin.append_ #[t, t] ty #[v, .slice (some ad) 1 1]).run P w = .ok v' w' ∧ Own1 w' base e v' (xs ++ [u]) ∧ w.grownBy w' v.ownBlock := by
  have ho := hown.owns
  obtain ⟨g, cap, cur, rfl, hbg, hg, hnc, hcm, hcs, htake, hall⟩ := hown
  have hnews : ∀ j x, [u][j]? = some x → w.cell? (ad.add j) = some x := fun j x hj => by
    match j, hj with
    | 0, hj => simp at hj; subst hj; simpa [Addr.add] using hu
  have hxp : ∀ c ∈ xs, pv c = true := fun c hc => hall c (by rw [← htake] at hc; exact List.mem_of_mem_take hc)
  by_cases hroom : xs.length + 1 ≤ cap
  · have hfit : xs.length * i.size + [u].length ≤ cur.size := by rw [hsize, hcs]; simpa using hroom
    have hr := run_append_room (P := P) w t ty e i ht hi g xs.length cap cur hg ad 1 1 [u] (by rw [hsize]; rfl) hnews (by simpa using h1) hroom hfit
    rw [hsize, Nat.mul_one] at hr
    refine ⟨_, _, hr, ⟨g, cap, _, by simp, hbg, setRow_heap w g cur _ e _ hg, by simpa using hroom, hcm, ?_, ?_, ?_⟩, ⟨rfl, rfl, rfl, by simp, fun k _ hk => setRow_other w g k _ (fun e => hk (by simp [Value.ownBlock, e]))⟩⟩
    · simp only [List.size_toArray, List.length_append, List.length_take, List.length_drop, Array.length_toList, List.length_singleton]
      omega
    · rw [htake]
      rw [show (xs ++ [u] ++ cur.toList.drop (xs.length + [u].length)).toArray.toList = (xs ++ [u]) ++ cur.toList.drop (xs.length + [u].length) from rfl]
      exact List.take_left
    · intro c hc
      rw [htake] at hc
      simp only [List.mem_append, List.mem_singleton] at hc
      rcases hc with (hc | hc) | hc
      · exact hxp c hc
      · rw [hc]; exact hup
      · exact hall c (List.mem_of_mem_drop hc)
  · have holds : ∀ j x, xs[j]? = some x → w.cell? ((⟨g, 0, none⟩ : Addr).add j) = some x := ho.cells (g := g) rfl
    have hge := grownCap_ge w (xs.length + 1) cap e
    have hml : grownCap w (xs.length + 1) cap e ≤ maxLen := grownCap_le_maxLen w (xs.length + 1) cap e (by unfold maxLen; omega)
    have hr := run_append_grow (P := P) w t ty e i z ht hi hz ⟨g, 0, none⟩ xs.length cap xs (by rw [hsize]; simp) holds ad 1 1 [u] (by rw [hsize]; rfl) hnews (by omega) (by omega) (growslice_fits (by omega) (by
      have : (xs.length + 1) * i.bytes ≤ 1001 * 24 := Nat.mul_le_mul (by omega) hby
      omega))
    refine ⟨_, _, hr, ⟨w.heap.size, grownCap w (xs.length + 1) cap e, _, by simp, hbase, heap_alloc_new w.drew _, by simpa using hge, hml, ?_, ?_, ?_⟩, ⟨rfl, rfl, rfl, by simp, fun k hk _ => Below.heap_alloc w.drew _ k hk⟩⟩
    · simp only [Array.size_append, List.size_toArray, size_zeroCells, hzc]
      simp
      omega
    · simp only [Array.toList_append, List.append_assoc]
      rw [← List.append_assoc]
      exact List.take_left
    · intro c hc
      simp only [Array.toList_append, List.mem_append] at hc
      rcases hc with (hc | hc) | hc
      · exact hxp c hc
      · simp at hc; rw [hc]; exact hup
      · have : c = z := by
          have h2 : c ∈ (Builtin.zeroCells z.cells (grownCap w (xs.length + 1) cap e - (xs.length + 1))).toList := hc
          rw [hzc] at h2
          simp [Builtin.zeroCells] at h2
          obtain ⟨q, _, hq⟩ := h2
          rw [Nat.mod_one] at hq
          simpa using hq.symm
        rw [this]; exact hzp
theorem wpList_append1 {P : Program} (w : World) {ops : Array Oper} {rest : List Oper} {o : Oper} {a : Act} {Q : Exit → Act → World → Prop} (hgd : o.guard = none) (s x : Operand) (t : TypeId)
    (hop : o.op = .call { callee := .builtin .append, args := #[s, x], argTypes := #[t, t] })
    (base : Nat) (e : TypeId) (i : TypeInfo) (z : Value) (ht : P.underlying t = some (.slice e)) (hi : P.info? e = some i) (hz : i.zero = some z) (hsize : i.size = 1) (hby : i.bytes ≤ 24) (hzc : z.cells = #[z]) (hzp : pv z = true)
    (v : Value) (xs : List Value) (hs : a.eval s = v) (hown : Own1 w base e v xs) (ad : Addr) (u : Value) (hx : a.eval x = .slice (some ad) 1 1) (hu : w.cell? ad = some u) (hup : pv u = true) (h1 : u.oneCell' = true) (hn : xs.length ≤ 1000) (hbase : base ≤ w.heap.size)
    (h : ∀ v' w', Own1 w' base e v' (xs ++ [u]) → w.grownBy w' v.ownBlock → wpList P ops Q rest (a.put o.dst v') w') : wpList P ops Q (o :: rest) a w :=
  wpList_plain hgd fun K hK => by
    obtain ⟨v', w', hr, h2, h3⟩ := run_append1 (P := P) w base t o.type e i z ht hi hz hsize hby hzc hzp v xs hown ad u hu hup h1 hn hbase
    unfold Oper.wp execOp
    simp only [hop, resolve, invoke, builtin, Sem.run_bind, Sem.run_pure, Result.andThen_ok, List.map_toArray, List.map_cons, List.map_nil, hs, hx, hr]
    exact hK _ _ (h v' w' h2 h3)
end Go.Proofs.Yteiljaecaahonaa
