import Derived.Test.YtmdmehopefgndaaGreatDoorZ08
import Derived.WalkMore
import Derived.ScopeJumps
import Derived.Test.YtmdmehopefgndaaGreatDoorZ06
import Derived.Laws.Tables
import Derived.DeepKeys
/- Base: the direction of the first strong one. -/
namespace Go.Proofs.YtmdmehopefgndaaGreatDoor
open Go.RowKit
set_option linter.unusedVariables false
set_option maxHeartbeats 1000000
set_option maxRecDepth 100000
theorem bs_end (l : List Int) (o i : Nat) (h : l.length ≤ i) : Iso.bso o (l.drop i) = 0 := by rw [List.drop_eq_nil_of_le h]; rfl
theorem bs_one {l : List Int} {i : Nat} (h : i < l.length) (hx : l.getD i 0 = 1) : Iso.bso 0 (l.drop i) = 0 := by
  rw [Iso.drop_at l i h, Iso.bso_cons, hx, if_pos (by decide)]
theorem bs_two {l : List Int} {i : Nat} (h : i < l.length) (hx : l.getD i 0 = 2 ∨ l.getD i 0 = 3) : Iso.bso 0 (l.drop i) = 1 := by
  rw [Iso.drop_at l i h, Iso.bso_cons, if_neg (by omega), if_pos ⟨rfl, hx⟩]
theorem bs_next {l : List Int} {o i : Nat} (h : i < l.length) (hx : o = 0 → ¬ l.getD i 0 = 1 ∧ ¬ l.getD i 0 = 2 ∧ ¬ l.getD i 0 = 3) : Iso.bso o (l.drop i) = Iso.bso (Iso.nx o (l.getD i 0)) (l.drop (i + 1)) := by
  rw [Iso.drop_at l i h, Iso.bso_cons, if_neg (fun h1 => (hx h1.1).1 h1.2), if_neg (fun h1 => h1.2.elim (hx h1.1).2.1 (hx h1.1).2.2)]
theorem nx_turn {o : Nat} (ho : 1 ≤ o) (x : Int) : (o : Int) + Iso.turn x = (Iso.nx o x : Nat) ∧ Iso.nx o x ≤ o + 1 := by
  unfold Iso.turn Iso.nx
  split
  · omega
  · split <;> omega
theorem nx_zero {x : Int} (h : ¬ Iso.st x = true) : Iso.nx 0 x = 0 := by
  unfold Iso.nx; rw [if_neg h]; split <;> rfl
theorem turn_one {x : Int} : (Iso.turn x == 1) = Iso.st x := by
  unfold Iso.turn
  cases h : Iso.st x with
  | true => simp
  | false => simp; split <;> simp
theorem getD_takeL {c : List Int} {t i : Nat} (h : i < t) : (c.take t).getD i 0 = c.getD i 0 := getD_take h
theorem base_bad (ao : Option Addr) (n cap : Nat) (fr to : Int) (w : World) (hr : fr < 0 ∨ (n : Int) < to ∨ to < fr) :
    Calls Tryz.prog 30 #[.slice ao n cap, .int .i64 fr, .int .i64 to] w fun e w' => e = .returned (.tuple #[.int .i64 0, .int .i64 4]) ∧ w = w' := by
  have hr2 : fr < 0 ∨ (¬ fr < 0 ∧ (n : Int) < to) ∨ (¬ fr < 0 ∧ ¬ (n : Int) < to ∧ to < fr) := by omega
  clear hr
  rcases hr2 with h1 | ⟨h1, h2⟩ | ⟨h1, h2, h3⟩
  all_goals
    go_enter Tryz.func30, Tryz.ntmps30
    go_wp2
    go_step3
    go_wp2
    rw [Exit.noGoto_ret]
    go_ret2
    exact ⟨rfl, rfl⟩
theorem base_ok (ao : Option Addr) (n cap : Nat) (c : List Int) (f t : Nat) (w : World) (h : Row .i64 w ao n cap c) (hn : n * 8 ≤ 140737488351232) (hf : f ≤ t) (ht : t ≤ n) :
    Calls Tryz.prog 30 #[.slice ao n cap, .int .i64 (f : Int), .int .i64 (t : Int)] w fun e w' => e = .returned (.tuple #[.int .i64 (Iso.bso 0 ((c.take t).drop f)), .int .i64 0]) ∧ w = w' := by
  have H := hide h
  have HL := hide h.len
  have hn2 : n ≤ 17592186044416 := by omega
  obtain ⟨seg, hseg⟩ : ∃ seg, c.take t = seg := ⟨_, rfl⟩
  have HSL := hide (show seg.length = t from by rw [← hseg, List.length_take, HL.out]; omega)
  have HSG := hide (fun (i : Nat) (hi : i < t) => (show seg.getD i 0 = c.getD i 0 from by rw [← hseg]; exact getD_takeL hi))
  rw [hseg]
  obtain ⟨R, hR⟩ : ∃ R, Iso.bso 0 (seg.drop f) = R := ⟨_, rfl⟩
  have HR := hide hR
  rw [hR]
  have d1 : decide ((f : Int) < 0) = false := decide_eq_false (by omega)
  have d2 : decide ((n : Int) < (t : Int)) = false := decide_eq_false (by omega)
  have d3 : decide ((t : Int) < (f : Int)) = false := decide_eq_false (by omega)
  have d2n : decide (n < t) = false := decide_eq_false (by omega)
  have d3n : decide (t < f) = false := decide_eq_false (by omega)
  clear h hn hseg hR
  go_enter Tryz.func30, Tryz.ntmps30
  go_wp2
  go_step3
  go_wp2
  go_step3
  go_wp2
  go_loopw [8] (fun s8 wr => ∃ i : Nat, s8 = .int .i64 (i : Int) ∧ i ≤ t + 1 ∧ Hid (Iso.bso 0 (seg.drop i) = R) ∧ w = wr) (fun s8 _ => t + 1 - (intOf s8).toNat)
  case atStart => exact ⟨f, rfl, by omega, HR, rfl⟩
  case round =>
    obtain ⟨i, rfl, hi, hb, rfl⟩ := hrel
    by_cases hlt : i < t
    · have hil : i < seg.length := by rw [HSL.out]; exact hlt
      obtain ⟨b, off, rfl, hbl, hc⟩ := H.out.cells (by omega)
      have ck : w.cell? ⟨b, off + i, none⟩ = some (.int .i64 (c.getD i 0)) := hc i (by rw [HL.out]; omega)
      rw [← HSG.out i hlt] at ck
      have hin : (i : Int) < (t : Int) := by omega
      have hin2 : (i : Int) < (n : Int) := by omega
      have HB1 := hide (bs_one hil)
      have HB2 := hide (bs_two hil)
      have HB3 := hide (bs_next (o := 0) hil)
      have HT := hide (turn_any (seg.getD i 0) w)
      rw [hb.out] at HB1 HB2 HB3
      generalize seg.getD i 0 = x at *
      clear hil hc
      by_cases hx1 : x = 1
      · have HE := hide (HB1.out hx1)
        clear HB1 HB2 HB3 HT
        go_wp2
        try rw [Exit.noGoto_ret]
        go_ret2
        exact ⟨by rw [HE.out]; rfl, rfl⟩
      · by_cases hx2 : x = 2
        · have HE := hide (HB2.out (.inl hx2))
          clear HB1 HB2 HB3 HT
          go_wp2
          try rw [Exit.noGoto_ret]
          go_ret2
          exact ⟨by rw [HE.out]; rfl, rfl⟩
        · by_cases hx3 : x = 3
          · have HE := hide (HB2.out (.inr hx3))
            clear HB1 HB2 HB3 HT
            go_wp2
            try rw [Exit.noGoto_ret]
            go_ret2
            exact ⟨by rw [HE.out]; rfl, rfl⟩
          · have HE := hide (HB3.out fun _ => ⟨hx1, hx2, hx3⟩)
            cases hs : Iso.st x with
            | false =>
              have htn : (Iso.turn x == 1) = false := by rw [turn_one, hs]
              have HF := hide (show Iso.bso 0 (seg.drop (i + 1)) = R from by rw [HE.out, nx_zero (by rw [hs]; decide)])
              generalize Iso.turn x = tx at *
              clear HB1 HB2 HB3 HE hs
              go_wp2_with (go_at_call 37; refine HT.out.mono ?_; rintro e w' ⟨rfl, rfl⟩)
              go_roundw
              case rel => exact ⟨i + 1, by go_num, by omega, HF, trivial⟩
              case measure => simp [intOf]; omega
            | true =>
              have htn : Iso.turn x = 1 := by unfold Iso.turn; rw [if_pos hs]
              rw [htn] at HT
              have HF := hide (show Iso.bso 1 (seg.drop (i + 1)) = R from by rw [HE.out, Iso.nx, if_pos hs])
              clear HB1 HB2 HB3 HE hs htn
              go_wp2_with (go_at_call 37; refine HT.out.mono ?_; rintro e w' ⟨rfl, rfl⟩)
              go_loopw [8, 9] (fun s8 s9 wr => ∃ j o : Nat, s8 = .int .i64 (j : Int) ∧ s9 = .int .i64 (o : Int) ∧ i < j ∧ j ≤ t ∧ 1 ≤ o ∧ o ≤ j ∧ Hid (Iso.bso o (seg.drop j) = R) ∧ w = wr) (fun s8 _ _ => t + 1 - (intOf s8).toNat)
              case atStart => exact ⟨i + 1, 1, by go_num, rfl, by omega, by omega, Nat.le_refl _, by omega, HF, rfl⟩
              case round =>
                obtain ⟨j, o, rfl, rfl, hij, hj, ho, hoj, hbj, rfl⟩ := hrel
                by_cases hjt : j < t
                · have hjl : j < seg.length := by rw [HSL.out]; exact hjt
                  obtain ⟨b2, off2, e2, hbl2, hc2⟩ := H.out.cells (by omega)
                  simp only [Option.some.injEq, Addr.mk.injEq, and_true] at e2
                  obtain ⟨rfl, rfl⟩ := e2
                  have cj : w.cell? ⟨b, off + j, none⟩ = some (.int .i64 (c.getD j 0)) := hc2 j (by rw [HL.out]; omega)
                  rw [← HSG.out j hjt] at cj
                  have hjn : (j : Int) < (t : Int) := by omega
                  have hjn2 : (j : Int) < (n : Int) := by omega
                  have HBN := hide (bs_next (o := o) hjl (fun h0 => by omega))
                  rw [hbj.out] at HBN
                  have HTJ := hide (turn_any (seg.getD j 0) w)
                  obtain ⟨et, hle⟩ := nx_turn ho (seg.getD j 0)
                  generalize seg.getD j 0 = y at *
                  generalize Iso.nx o y = q at *
                  have ety : Iso.turn y = (q : Int) - (o : Int) := by omega
                  rw [ety] at HTJ
                  have eq1 : (o : Int) + ((q : Int) - (o : Int)) = (q : Int) := by omega
                  clear hjl hc2 et ety ck HT hin hin2 HF hbj
                  rcases Nat.eq_zero_or_pos q with rfl | hq
                  · have e0 : ((o : Int) + -(o : Int) == 0) = true := beq_iff_eq.2 (by omega)
                    go_wp2_with (go_at_call 37; refine HTJ.out.mono ?_; rintro e w' ⟨rfl, rfl⟩)
                    exact ⟨⟨j + 1, by go_num, by omega, hide HBN.out.symm, trivial⟩, by simp [intOf]; omega⟩
                  · have hq0 : ((q : Int) == 0) = false := beq_false_of_ne (by omega)
                    go_wp2_with (go_at_call 37; refine HTJ.out.mono ?_; rintro e w' ⟨rfl, rfl⟩)
                    go_roundw
                    case rel => exact ⟨j + 1, q, by go_num, by go_num, by omega, by omega, hq, by omega, hide HBN.out.symm, trivial⟩
                    case measure => simp [intOf]; omega
                · have hjn : ¬ ((j : Int) < (t : Int)) := by omega
                  have hj2 : j = t := by omega
                  have HE0 := hide (bs_end seg o j (by rw [HSL.out]; omega))
                  rw [hbj.out] at HE0
                  have HE1 := hide (bs_end seg 0 (t + 1) (by rw [HSL.out]; omega))
                  go_wp2
                  exact ⟨⟨t + 1, by go_num, by omega, hide (HE1.out.trans HE0.out.symm), trivial⟩, by simp [intOf]; omega⟩
    · have hne : ¬ ((i : Int) < (t : Int)) := by omega
      have HE := hide (show R = 0 from by rw [← hb.out]; exact bs_end _ _ _ (by rw [HSL.out]; omega))
      clear hb
      go_wp2
      try rw [Exit.noGoto_ret]
      go_ret2
      exact ⟨by rw [HE.out]; rfl, rfl⟩
end Go.Proofs.YtmdmehopefgndaaGreatDoor

/- The stack of explicit levels, as it lies in memory; its small methods. -/
namespace Go.Proofs.YtmdmehopefgndaaGreatDoor
open Go.RowKit
set_option linter.unusedVariables false
set_option maxHeartbeats 1000000
set_option maxRecDepth 100000
/-- The cells of an entry. -/
def ec (e : Ex.Ent) : List Value := [.int .i64 e.lv, .int .i64 e.ov, .bool e.is]
def ents (l : List Ex.Ent) : List Value := l.reverse.flatMap ec
theorem ents_cons (e : Ex.Ent) (l : List Ex.Ent) : ents (e :: l) = ents l ++ ec e := by simp [ents, List.flatMap_append]
theorem ents_len (l : List Ex.Ent) : (ents l).length = l.length * 3 := by
  induction l with
  | nil => rfl
  | cons e r ih => rw [ents_cons, List.length_append, ih, List.length_cons]; simp only [ec, List.length_cons, List.length_nil]; omega
theorem ents_one (l : List Ex.Ent) : ∀ u ∈ ents l, u.oneCell' = true := by
  intro u hu
  simp only [ents, List.mem_flatMap] at hu
  obtain ⟨e, _, he⟩ := hu
  simp only [ec, List.mem_cons, List.not_mem_nil, or_false] at he
  rcases he with rfl | rfl | rfl <;> simp [Value.oneCell']
theorem ents_top (e : Ex.Ent) (l : List Ex.Ent) : (ents (e :: l))[l.length * 3]? = some (.int .i64 e.lv) ∧ (ents (e :: l))[l.length * 3 + 1]? = some (.int .i64 e.ov) ∧ (ents (e :: l))[l.length * 3 + 2]? = some (.bool e.is) := by
  rw [ents_cons, ← ents_len l]
  refine ⟨?_, ?_, ?_⟩
  · rw [List.getElem?_append_right (Nat.le_refl _), Nat.sub_self]; rfl
  · rw [List.getElem?_append_right (by omega), show (ents l).length + 1 - (ents l).length = 1 from by omega]; rfl
  · rw [List.getElem?_append_right (by omega), show (ents l).length + 2 - (ents l).length = 2 from by omega]; rfl
theorem ents_bot {b : Int} {l : List Ex.Ent} (h : Ex.Chain b l) : (ents l)[0]? = some (.int .i64 b) ∧ (ents l)[1]? = some (.int .i64 0) ∧ (ents l)[2]? = some (.bool false) := by
  obtain ⟨r, rfl⟩ := h.last
  have e : ents (r ++ [Ex.bot b]) = ec (Ex.bot b) ++ ents r := by simp [ents, List.reverse_append]
  rw [e]
  exact ⟨rfl, rfl, rfl⟩
/-- The stack lies at block p, its entries from block g on; all from block B on. -/
structure SA (B : Nat) (w : World) (p : Nat) (S : Ex.St) (g cap : Nat) : Prop where
  ge : B ≤ p
  blk : w.heap[p]? = some (.cells #[.slice (some ⟨g, 0, none⟩) S.st.length cap, .int .i64 (S.oi : Int), .int .i64 (S.oe : Int), .int .i64 (S.va : Int)] 109 (0, 0))
  own : w.ownsRow B 106 3 (.slice (some ⟨g, 0, none⟩) S.st.length cap) S.st.length (ents S.st)
  ne : ¬ g = p
section
variable {B : Nat} {w : World} {p : Nat} {S : Ex.St} {g cap : Nat}
theorem SA.lt (h : SA B w p S g cap) : p < w.heap.size ∧ g < w.heap.size ∧ B ≤ g := ⟨(Array.getElem?_eq_some_iff.1 h.blk).1, (h.own.lt g rfl).2, (h.own.lt g rfl).1⟩
theorem SA.size (h : SA B w p S g cap) : B ≤ w.heap.size := by have h1 := h.lt.1; have h2 := h.ge; omega
theorem SA.caps (h : SA B w p S g cap) : S.st.length ≤ cap ∧ cap ≤ maxLen := by
  rcases h.own.2 with ⟨h0, _⟩ | ⟨g', cap', cur, hv, _, _, h1, h2, _⟩
  · cases h0
  · cases hv; exact ⟨h1, h2⟩
theorem SA.c0 (h : SA B w p S g cap) : w.cell? ⟨p, 0, none⟩ = some (.slice (some ⟨g, 0, none⟩) S.st.length cap) := by simp [World.cell?, h.blk]
theorem SA.c1 (h : SA B w p S g cap) : w.cell? ⟨p, 1, none⟩ = some (.int .i64 (S.oi : Int)) := by simp [World.cell?, h.blk]
theorem SA.c2 (h : SA B w p S g cap) : w.cell? ⟨p, 2, none⟩ = some (.int .i64 (S.oe : Int)) := by simp [World.cell?, h.blk]
theorem SA.c3 (h : SA B w p S g cap) : w.cell? ⟨p, 3, none⟩ = some (.int .i64 (S.va : Int)) := by simp [World.cell?, h.blk]
theorem SA.fz (h : SA B w p S g cap) (j : Nat) : w.frozen? ⟨p, j, none⟩ = false := by simp [World.frozen?, h.blk]
theorem SA.below (h : SA B w p S g cap) {w' : World} (hb : Below w.heap.size w w') : SA B w' p S g cap := ⟨h.ge, (hb.block p h.lt.1).trans h.blk, owns_below h.own hb, h.ne⟩
theorem SA.drew (h : SA B w p S g cap) : SA B w.drew p S g cap := h.below (Below.drew (Below.refl _ _))
theorem SA.top (h : SA B w p S g cap) {m : Nat} (hm : S.st.length = m + 1) : w.cell? ⟨g, m * 3, none⟩ = some (.int .i64 (Ex.hd S.st).lv) ∧ w.cell? ⟨g, m * 3 + 1, none⟩ = some (.int .i64 (Ex.hd S.st).ov) ∧ w.cell? ⟨g, m * 3 + 2, none⟩ = some (.bool (Ex.hd S.st).is) := by
  have ho := h.own
  cases hs : S.st with
  | nil => rw [hs] at hm; simp at hm
  | cons e r =>
    rw [hs] at ho hm
    have hr : r.length = m := by simpa using hm
    have ht := ents_top e r
    rw [hr] at ht
    have hl := ho.1
    rw [List.length_cons, hr] at hl
    exact ⟨(ho.cellAt _ (by rw [List.length_cons]; omega)).trans ht.1, (ho.cellAt _ (by rw [List.length_cons]; omega)).trans ht.2.1, (ho.cellAt _ (by rw [List.length_cons]; omega)).trans ht.2.2⟩
theorem SA.bot (h : SA B w p S g cap) {b : Int} (hc : Ex.Chain b S.st) : w.cell? ⟨g, 0, none⟩ = some (.int .i64 b) ∧ w.cell? ⟨g, 1, none⟩ = some (.int .i64 0) ∧ w.cell? ⟨g, 2, none⟩ = some (.bool false) := by
  have ht := ents_bot hc
  have hp := hc.pos
  exact ⟨(h.own.cellAt 0 (by omega)).trans ht.1, (h.own.cellAt 1 (by omega)).trans ht.2.1, (h.own.cellAt 2 (by omega)).trans ht.2.2⟩
theorem SA.blkSet (h : SA B w p S g cap) (j : Nat) (v : Value) : (w.setCell ⟨p, j, none⟩ v).heap[p]? = some (.cells ((#[.slice (some ⟨g, 0, none⟩) S.st.length cap, .int .i64 (S.oi : Int), .int .i64 (S.oe : Int), .int .i64 (S.va : Int)] : Array Value).setIfInBounds j v) 109 (0, 0)) := by
  rw [setCell_eq_setRow w p j _ _ _ v h.blk]
  exact setRow_heap w p _ _ _ _ h.blk
theorem SA.ownSet (h : SA B w p S g cap) (j : Nat) (v : Value) : (w.setCell ⟨p, j, none⟩ v).ownsRow B 106 3 (.slice (some ⟨g, 0, none⟩) S.st.length cap) S.st.length (ents S.st) := by
  have ho := h.own
  refine ⟨ho.1, ?_⟩
  rcases ho.2 with ⟨h0, _⟩ | ⟨g', cap', cur, hv, hbs, hg, rest⟩
  · cases h0
  · cases hv
    refine .inr ⟨g, cap, cur, rfl, hbs, ?_, rest⟩
    rw [setCell_eq_setRow w p j _ _ _ v h.blk, setRow_other _ _ _ _ h.ne]
    exact hg
theorem SA.setOi (h : SA B w p S g cap) {z : Int} {k : Nat} (hz : z = (k : Int)) : SA B (w.setCell ⟨p, 1, none⟩ (.int .i64 z)) p ⟨S.st, k, S.oe, S.va⟩ g cap := by
  subst hz; exact ⟨h.ge, h.blkSet 1 _, h.ownSet 1 _, h.ne⟩
theorem SA.setOe (h : SA B w p S g cap) {z : Int} {k : Nat} (hz : z = (k : Int)) : SA B (w.setCell ⟨p, 2, none⟩ (.int .i64 z)) p ⟨S.st, S.oi, k, S.va⟩ g cap := by
  subst hz; exact ⟨h.ge, h.blkSet 2 _, h.ownSet 2 _, h.ne⟩
theorem SA.setVa (h : SA B w p S g cap) {z : Int} {k : Nat} (hz : z = (k : Int)) : SA B (w.setCell ⟨p, 3, none⟩ (.int .i64 z)) p ⟨S.st, S.oi, S.oe, k⟩ g cap := by
  subst hz; exact ⟨h.ge, h.blkSet 3 _, h.ownSet 3 _, h.ne⟩
theorem SA.pop (h : SA B w p S g cap) {m : Nat} (hm : S.st.length = m + 1) : SA B (w.setCell ⟨p, 0, none⟩ (.slice (some ⟨g, 0, none⟩) m cap)) p ⟨S.st.tail, S.oi, S.oe, S.va⟩ g cap := by
  have hb := h.blkSet 0 (.slice (some ⟨g, 0, none⟩) m cap)
  have ho := h.ownSet 0 (.slice (some ⟨g, 0, none⟩) m cap)
  cases hs : S.st with
  | nil => rw [hs] at hm; simp at hm
  | cons e r =>
    rw [hs] at hm ho hb
    have hr : r.length = m := by simpa using hm
    subst hr
    rw [ents_cons, List.length_cons] at ho
    exact ⟨h.ge, hb, ownsRow_pop (ents_len r) ho, h.ne⟩
/-- Behind an append. -/
theorem SA.push (h : SA B w p S g cap) {e : Ex.Ent} {o : Obj} {v' : Value} {w' : World} (ho : w'.ownsRow B 106 3 v' (S.st.length + 1) (ents S.st ++ ec e)) (hg : (w.alloc o).grownBy w' (some g)) :
    ∃ g' cap', v' = .slice (some ⟨g', 0, none⟩) (S.st.length + 1) cap' ∧ SA B (w'.setCell ⟨p, 0, none⟩ v') p ⟨e :: S.st, S.oi, S.oe, S.va⟩ g' cap' := by
  obtain ⟨g', cap', rfl, hb, hle⟩ := owns_pos ho (by omega)
  refine ⟨g', cap', rfl, ?_⟩
  have hp : w'.heap[p]? = some (.cells #[.slice (some ⟨g, 0, none⟩) S.st.length cap, .int .i64 (S.oi : Int), .int .i64 (S.oe : Int), .int .i64 (S.va : Int)] 109 (0, 0)) := by
    rw [hg.block p (by simp; have := h.lt.1; omega) (fun h0 => h.ne (by simpa using h0.symm))]
    rw [← h.blk]
    exact (Below.alloc (Below.refl w.heap.size w) (Nat.le_refl _) o).block p h.lt.1
  have hne : ¬ g' = p := by
    rintro rfl
    rcases ho.2 with ⟨h0, _⟩ | ⟨g2, cap2, cur, hv2, hbs, hg2, rest⟩
    · cases h0
    · cases hv2
      rw [hp] at hg2
      simp at hg2
  refine ⟨h.ge, ?_, ?_, hne⟩
  · rw [setCell_eq_setRow w' p 0 _ _ _ _ hp]
    exact setRow_heap w' p _ _ _ _ hp
  · rw [← ents_cons] at ho
    refine ⟨ho.1, ?_⟩
    rcases ho.2 with ⟨h0, _⟩ | ⟨g2, cap2, cur, hv2, hbs, hg2, rest⟩
    · cases h0
    · cases hv2
      refine .inr ⟨g', cap', cur, rfl, hbs, ?_, rest⟩
      rw [setCell_eq_setRow w' p 0 _ _ _ _ hp, setRow_other _ _ _ _ hne]
      exact hg2
theorem SA.grown (h : SA B w p S g cap) {o : Obj} {w' : World} (hg : (w.alloc o).grownBy w' (some g)) : w'.cell? ⟨p, 0, none⟩ = some (.slice (some ⟨g, 0, none⟩) S.st.length cap) ∧ w'.frozen? ⟨p, 0, none⟩ = false := by
  have hp : w'.heap[p]? = w.heap[p]? := by
    rw [hg.block p (by simp; have := h.lt.1; omega) (fun h0 => h.ne (by simpa using h0.symm))]
    exact (Below.alloc (Below.refl w.heap.size w) (Nat.le_refl _) o).block p h.lt.1
  exact ⟨by simp [World.cell?, hp, h.blk], by simp [World.frozen?, hp, h.blk]⟩
theorem SA.setLow (h : SA B w p S g cap) {a : Addr} (ha : a.block < B) (v : Value) : SA B (w.setCell a v) p S g cap := by
  refine ⟨h.ge, ?_, ownsRow_setCell_below h.own ha v, h.ne⟩
  rw [← h.blk]
  have hne : ¬ a.block = p := by have := h.ge; omega
  unfold World.setCell
  simp [Array.getElem?_modify, hne]
end
end Go.Proofs.YtmdmehopefgndaaGreatDoor

/- The stack's small methods: last, overflows, drop, way, overrideOf, Removed. -/
namespace Go.Proofs.YtmdmehopefgndaaGreatDoor
open Go.RowKit
set_option linter.unusedVariables false
set_option maxHeartbeats 1000000
set_option maxRecDepth 100000
theorem way_any (x : Int) (w : World) : Calls Tryz.prog 78 #[.int .i64 x] w fun e w' => e = .returned (.int .i64 (if Ex.odd x then 1 else 0)) ∧ w = w' := by
  by_cases h1 : x = 17
  · subst h1
    go_enter Tryz.func78, Tryz.ntmps78
    go_wp2
    go_ret
    exact ⟨rfl, rfl⟩
  · by_cases h2 : x = 18
    · subst h2
      go_enter Tryz.func78, Tryz.ntmps78
      go_wp2
      go_ret
      exact ⟨rfl, rfl⟩
    · by_cases h3 : x = 21
      · subst h3
        go_enter Tryz.func78, Tryz.ntmps78
        go_wp2
        go_ret
        exact ⟨rfl, rfl⟩
      · have ho : Ex.odd x = false := by unfold Ex.odd; simp [h1, h2, h3]
        rw [ho]
        clear ho
        go_enter Tryz.func78, Tryz.ntmps78
        go_wp2
        go_ret
        exact ⟨rfl, rfl⟩
theorem overrideOf_any (x : Int) (w : World) : Calls Tryz.prog 64 #[.int .i64 x] w fun e w' => e = .returned (.int .i64 (Ex.ovr x)) ∧ w = w' := by
  by_cases h1 : x = 16
  · subst h1
    go_enter Tryz.func64, Tryz.ntmps64
    go_wp2
    go_ret
    exact ⟨rfl, rfl⟩
  · by_cases h2 : x = 18
    · subst h2
      go_enter Tryz.func64, Tryz.ntmps64
      go_wp2
      go_ret
      exact ⟨rfl, rfl⟩
    · have ho : Ex.ovr x = 0 := by unfold Ex.ovr; simp [h1, h2]
      rw [ho]
      clear ho
      go_enter Tryz.func64, Tryz.ntmps64
      go_wp2
      go_ret
      exact ⟨rfl, rfl⟩
theorem rm_cases (x : Int) : (Ex.rm x = true ∧ (x = 17 ∨ x = 15 ∨ x = 18 ∨ x = 16 ∨ x = 19 ∨ x = 10)) ∨ (Ex.rm x = false ∧ ¬ x = 17 ∧ ¬ x = 15 ∧ ¬ x = 18 ∧ ¬ x = 16 ∧ ¬ x = 19 ∧ ¬ x = 10) := by
  cases h : Ex.rm x with
  | true =>
    left
    unfold Ex.rm at h
    simp only [Bool.or_eq_true, beq_iff_eq] at h
    exact ⟨rfl, by omega⟩
  | false =>
    right
    unfold Ex.rm at h
    simp only [Bool.or_eq_false_iff, beq_eq_false_iff_ne] at h
    exact ⟨rfl, by omega⟩
theorem removed_any (x : Int) (w : World) : Calls Tryz.prog 67 #[.int .i64 x] w fun e w' => e = .returned (.bool (Ex.rm x)) ∧ w = w' := by
  rcases rm_cases x with ⟨hs, h⟩ | ⟨hs, h1, h2, h3, h4, h5, h6⟩
  · rcases h with rfl | rfl | rfl | rfl | rfl | rfl
    all_goals
      clear hs
      go_enter Tryz.func67, Tryz.ntmps67
      go_wp2
      go_ret
      exact ⟨rfl, rfl⟩
  · rw [hs]
    clear hs
    go_enter Tryz.func67, Tryz.ntmps67
    go_wp2
    go_ret
    exact ⟨rfl, rfl⟩
theorem entInfo : (Tryz.prog.info? 106).map (fun i => (i.zero, i.size, i.bytes)) = some (some (.agg #[.int .i64 0, .int .i64 0, .bool false]), 3, 24) := by kernel_rfl
theorem entCells : Tryz.prog.cellsOf 106 = 3 := by kernel_rfl
theorem overflows_any {B : Nat} {w : World} {p : Nat} {S : Ex.St} {g cap : Nat} (h : SA B w p S g cap) :
    Calls Tryz.prog 68 #[.pointer (some ⟨p, 0, none⟩)] w fun e w' => e = .returned (.bool (!(S.oi == 0 && S.oe == 0))) ∧ w = w' := by
  have c1 := h.c1
  have c2 := h.c2
  obtain ⟨st, oi, oe, va⟩ := S
  simp only at c1 c2 ⊢
  clear h
  by_cases h1 : 0 < oi
  · have h1' : (0 : Int) < (oi : Int) := by omega
    have e1 : (oi == 0) = false := beq_false_of_ne (by omega)
    rw [e1]
    go_enter Tryz.func68, Tryz.ntmps68
    go_wp2
    go_ret
    exact ⟨rfl, rfl⟩
  · obtain rfl : oi = 0 := by omega
    by_cases h2 : 0 < oe
    · have h2' : (0 : Int) < (oe : Int) := by omega
      have e1 : (oe == 0) = false := beq_false_of_ne (by omega)
      rw [e1]
      go_enter Tryz.func68, Tryz.ntmps68
      go_wp2
      go_ret
      exact ⟨rfl, rfl⟩
    · obtain rfl : oe = 0 := by omega
      go_enter Tryz.func68, Tryz.ntmps68
      go_wp2
      go_ret
      exact ⟨rfl, rfl⟩
theorem last_any {B : Nat} {w : World} {p : Nat} {S : Ex.St} {g cap : Nat} (h : SA B w p S g cap) (hn : 0 < S.st.length) :
    Calls Tryz.prog 65 #[.pointer (some ⟨p, 0, none⟩)] w fun e w' => e = .returned (.agg #[.int .i64 (Ex.hd S.st).lv, .int .i64 (Ex.hd S.st).ov, .bool (Ex.hd S.st).is]) ∧ Below w.heap.size w w' := by
  obtain ⟨m, hm⟩ : ∃ m, S.st.length = m + 1 := ⟨S.st.length - 1, by omega⟩
  have c0 := h.c0
  rw [hm] at c0
  obtain ⟨t0, t1, t2⟩ := h.top hm
  obtain ⟨lt1, lt2, _⟩ := h.lt
  have hc := h.caps
  unfold maxLen at hc
  rw [hm] at hc
  have ei : ((m + 1 : Nat) : Int) - 1 = (m : Int) := by omega
  have hmm : (m : Int) < ((m + 1 : Nat) : Int) := by omega
  generalize (Ex.hd S.st).lv = lv at *
  generalize (Ex.hd S.st).ov = ov at *
  generalize (Ex.hd S.st).is = is at *
  have np : ¬ p = w.heap.size := by omega
  have ng : ¬ g = w.heap.size := by omega
  clear h hm hn
  go_enter Tryz.func65, Tryz.ntmps65
  go_wp2
  go_region
  all_goals (try go_wp2)
  all_goals
    refine bodyPost_ret (v := .agg #[.int .i64 lv, .int .i64 ov, .bool is]) (by simp [results, Tryz.results65, go_sem]) rfl ⟨rfl, ?_⟩
    exact Below.drew (Below.alloc (Below.refl _ _) (Nat.le_refl _) _)
theorem run_upto3 {P : Program} {t e : TypeId} {i : TypeInfo} (ht : P.underlying t = some (.slice e)) (hi : P.info? e = some i) (hc : P.cellsOf e = 3) (ao : Option Addr) (n cap j : Nat) (hj : j ≤ cap) (w : World) :
    (Instr.slice t (.slice ao n cap) none (some (.int .i64 (j : Int))) none).run P w = .ok (.slice ao j cap) w := by
  have e1 : (0 : Int) ≤ (j : Int) ∧ (j : Int) ≤ (cap : Int) := by omega
  simp [Instr.slice, run_underlying ht, Instr.sliceBounds, go_sem, e1, run_sizeOf w hi, hc]
theorem drop_any {B : Nat} {w : World} {p : Nat} {S : Ex.St} {g cap : Nat} (h : SA B w p S g cap) (hn : 0 < S.st.length) :
    Calls Tryz.prog 66 #[.pointer (some ⟨p, 0, none⟩)] w fun e w' => e = .returned (.tuple #[]) ∧ SA B w' p ⟨S.st.tail, S.oi, S.oe, S.va⟩ g cap ∧ Below B w w' := by
  obtain ⟨m, hm⟩ : ∃ m, S.st.length = m + 1 := ⟨S.st.length - 1, by omega⟩
  have c0 := h.c0
  rw [hm] at c0
  have f0 := h.fz 0
  have HS := hide (h.pop hm).drew
  have HB := hide (((Below.refl B w).setCell (p := ⟨p, 0, none⟩) h.ge (.slice (some ⟨g, 0, none⟩) m cap)).drew)
  have hc := h.caps
  unfold maxLen at hc
  rw [hm] at hc
  obtain ⟨ii, hii, hy0, hy1, hy2⟩ := info_parts entInfo
  have hsl := fun w' => run_upto3 Tryz.underlying107 hii entCells (some ⟨g, 0, none⟩) (m + 1) cap m (by omega) w'
  have ei : ((m + 1 : Nat) : Int) - 1 = (m : Int) := by omega
  clear h hm hn hy0 hy1 hy2
  go_enter Tryz.func66, Tryz.ntmps66
  go_wp2
  go_region
  all_goals (try go_wp2)
  all_goals go_end0
  all_goals exact ⟨rfl, HS.out, HB.out⟩
theorem field_lv (a b : Int) (c : Bool) (w : World) : (Instr.field 106 (.agg #[.int .i64 a, .int .i64 b, .bool c]) 0).run Tryz.prog w = .ok (.int .i64 a) w := by kernel_rfl
theorem field_is (a b : Int) (c : Bool) (w : World) : (Instr.field 106 (.agg #[.int .i64 a, .int .i64 b, .bool c]) 2).run Tryz.prog w = .ok (.bool c) w := by kernel_rfl
theorem nl_even {l : Int} {o : Bool} (h : 0 ≤ l) (he : (l + 1) % 2 = (if o then 1 else 0)) : Ex.nl l o = l + 1 := by
  unfold Ex.nl; rw [if_pos he]
theorem nl_odd {l : Int} {o : Bool} (h : 0 ≤ l) (he : ¬ (l + 1) % 2 = (if o then 1 else 0)) : Ex.nl l o = l + 1 + 1 := by
  unfold Ex.nl; rw [if_neg he]; omega
theorem next_any {B : Nat} {w : World} {p : Nat} {S : Ex.St} {g cap : Nat} (h : SA B w p S g cap) (hn : 0 < S.st.length) (h0 : 0 ≤ (Ex.hd S.st).lv) (h1 : (Ex.hd S.st).lv ≤ 125) (x : Int) :
    Calls Tryz.prog 63 #[.pointer (some ⟨p, 0, none⟩), .int .i64 x] w fun e w' => e = .returned (.tuple #[.int .i64 (Ex.nl (Ex.hd S.st).lv (Ex.odd x)), .bool (Ex.can S (Ex.odd x))]) ∧ Below w.heap.size w w' := by
  have HL := hide (last_any h hn)
  have hfl := field_lv
  have HW := hide (fun w' => way_any x w')
  have HO := hide (fun w' (hb : Below w.heap.size w w') => overflows_any (h.below hb))
  have HC := hide (show Ex.can S (Ex.odd x) = (decide (Ex.nl (Ex.hd S.st).lv (Ex.odd x) ≤ 125) && (S.oi == 0 && S.oe == 0)) from rfl)
  generalize Ex.can S (Ex.odd x) = cc at *
  generalize (S.oi == 0 && S.oe == 0) = q at *
  generalize (Ex.hd S.st).lv = l at *
  generalize (Ex.hd S.st).ov = ov at *
  generalize (Ex.hd S.st).is = is at *
  generalize Ex.odd x = o at *
  have hnl := Ex.nl_gt l o
  by_cases he : (l + 1) % 2 = (if o then 1 else 0)
  · have e2 := nl_even h0 he
    rw [e2] at HC hnl ⊢
    have e1 : ((l + 1) % 2 != (if o then (1 : Int) else 0)) = false := by simp [he]
    generalize (if o then (1 : Int) else 0) = wy at *
    clear h hn e2
    by_cases h3 : l + 1 ≤ 125
    · rw [decide_eq_true h3, Bool.true_and] at HC
      go_enter Tryz.func63, Tryz.ntmps63
      go_wp2_with (first
        | (go_at_call 65; refine HL.out.mono ?_; rintro e w1 ⟨rfl, hb1⟩)
        | (go_at_call 78; refine (HW.out _).mono ?_; rintro e w2 ⟨rfl, rfl⟩)
        | (go_at_call 68; refine (HO.out _ hb1).mono ?_; rintro e w2 ⟨rfl, rfl⟩))
      go_ret2
      exact ⟨by rw [HC.out]; simp, hb1⟩
    · rw [decide_eq_false h3, Bool.false_and] at HC
      go_enter Tryz.func63, Tryz.ntmps63
      go_wp2_with (first
        | (go_at_call 65; refine HL.out.mono ?_; rintro e w1 ⟨rfl, hb1⟩)
        | (go_at_call 78; refine (HW.out _).mono ?_; rintro e w2 ⟨rfl, rfl⟩)
        | (go_at_call 68; refine (HO.out _ hb1).mono ?_; rintro e w2 ⟨rfl, rfl⟩))
      go_ret2
      exact ⟨by rw [HC.out]; rfl, hb1⟩
  · have e2 := nl_odd h0 he
    rw [e2] at HC hnl ⊢
    have e1 : ((l + 1) % 2 != (if o then (1 : Int) else 0)) = true := by simp [he]
    generalize (if o then (1 : Int) else 0) = wy at *
    clear h hn e2
    by_cases h3 : l + 1 + 1 ≤ 125
    · rw [decide_eq_true h3, Bool.true_and] at HC
      go_enter Tryz.func63, Tryz.ntmps63
      go_wp2_with (first
        | (go_at_call 65; refine HL.out.mono ?_; rintro e w1 ⟨rfl, hb1⟩)
        | (go_at_call 78; refine (HW.out _).mono ?_; rintro e w2 ⟨rfl, rfl⟩)
        | (go_at_call 68; refine (HO.out _ hb1).mono ?_; rintro e w2 ⟨rfl, rfl⟩))
      go_ret2
      exact ⟨by rw [HC.out]; simp, hb1⟩
    · rw [decide_eq_false h3, Bool.false_and] at HC
      go_enter Tryz.func63, Tryz.ntmps63
      go_wp2_with (first
        | (go_at_call 65; refine HL.out.mono ?_; rintro e w1 ⟨rfl, hb1⟩)
        | (go_at_call 78; refine (HW.out _).mono ?_; rintro e w2 ⟨rfl, rfl⟩)
        | (go_at_call 68; refine (HO.out _ hb1).mono ?_; rintro e w2 ⟨rfl, rfl⟩))
      go_ret2
      exact ⟨by rw [HC.out]; rfl, hb1⟩
end Go.Proofs.YtmdmehopefgndaaGreatDoor
