/- RunsLevels: level runs are as the document has them, each with memory of its own. -/
import Derived.Test.YthohbiklnknofaaWorks8
import Derived.Test.YthohbiklnknofaaRefl8
namespace Go.Proofs.Ythohbiklnknofaa
open Go.RowKit Go.Maps
set_option linter.unusedVariables false
set_option maxHeartbeats 1000000
set_option maxRecDepth 100000
/-- Lists of lists that are written: from the i-th on they are as they were, but for their numbers. -/
structure AM (B s1 : Nat) (w3 wr : World) (g cap N : Nat) (vs : List Value) (i : Nat) : Prop where
  oa : wr.ownsRow B 22 1 (.slice (some ⟨g, 0, none⟩) N cap) N vs
  glt : g < s1
  rows : ∀ (j : Nat), i ≤ j → j < N → ∃ (gu m cu : Nat) (xs : List Int), vs[j]? = some (.slice (some ⟨gu, 0, none⟩) (m + 1) cu) ∧ gu < s1 ∧ m + 1 ≤ 2000 ∧ wr.ownsRow B 3 1 (.slice (some ⟨gu, 0, none⟩) (m + 1) cu) (m + 1) (xs.map (Value.int .i64))
  ne : ∀ (j j' gu gu' m m' cu cu' : Nat), i ≤ j → i ≤ j' → vs[j]? = some (.slice (some ⟨gu, 0, none⟩) m cu) → vs[j']? = some (.slice (some ⟨gu', 0, none⟩) m' cu') → j ≠ j' → gu ≠ gu'
  bel : Below B w3 wr
  fr : ∀ (q : Nat), s1 ≤ q → q < w3.heap.size → wr.heap[q]? = w3.heap[q]?
section
variable {B s1 : Nat} {w3 wr : World} {g cap N : Nat} {vs : List Value} {i : Nat}
theorem AM.begin {w2 : World} {rs : List (List Nat)} (h : LO B w2 (.slice (some ⟨g, 0, none⟩) N cap) vs rs) (hN : rs.length = N) (hb : Below w2.heap.size w2 w3) (hp : ∀ j, j < rs.length → 0 < (Rn.rn rs j).length ∧ (Rn.rn rs j).length ≤ 2000) : AM B w2.heap.size w3 w3 g cap N vs 0 := by
  have h3 := h.below hb
  subst hN
  refine ⟨h3.oa, (h.oa.lt g rfl).2, fun j _ hj => ?_, fun j j' gu gu' m m' cu cu' _ _ h1 h2 hne e => ?_, Below.refl _ _, fun q _ _ => rfl⟩
  · obtain ⟨u, hu, hou⟩ := h.rows j hj
    obtain ⟨hp1, hp2⟩ := hp j hj
    obtain ⟨gu, cu, rfl, _, _⟩ := owns_pos hou hp1
    obtain ⟨m, hm⟩ : ∃ m, (Rn.rn rs j).length = m + 1 := ⟨(Rn.rn rs j).length - 1, by omega⟩
    have hlt := (hou.lt gu rfl).2
    have ho3 := owns_below hou hb
    rw [hm] at hu ho3 hp2
    exact ⟨gu, m, cu, _, hu, hlt, hp2, ho3⟩
  · subst e
    exact h.ne j j' _ _ gu h1 h2 hne rfl rfl
theorem AM.drewN (h : AM B s1 w3 wr g cap N vs i) (q : Nat) : AM B s1 w3 (wr.drewN q) g cap N vs i :=
  ⟨owns_below h.oa (below_drewN wr q), h.glt, fun j h1 h2 => by
    obtain ⟨gu, m, cu, xs, a, b, c, d⟩ := h.rows j h1 h2
    exact ⟨gu, m, cu, xs, a, b, c, owns_below d (below_drewN wr q)⟩, h.ne, h.bel.trans ((below_drewN wr q).mono (Nat.le_trans (h.oa.lt g rfl).1 (Nat.le_of_lt (h.oa.lt g rfl).2))), h.fr⟩
/-- A number is stored into the i-th list. -/
theorem AM.put (h : AM B s1 w3 wr g cap N vs i) (hi : i < N) {gu m cu : Nat} (hu : vs[i]? = some (.slice (some ⟨gu, 0, none⟩) (m + 1) cu)) (k : Nat) (z : Int) : AM B s1 w3 (wr.setCell ⟨gu, k, none⟩ (.int .i64 z)) g cap N vs i := by
  obtain ⟨gu0, m0, cu0, xs0, a0, b0, c0, d0⟩ := h.rows i (Nat.le_refl _) hi
  rw [hu] at a0
  simp only [Option.some.injEq, Value.slice.injEq, Addr.mk.injEq, and_true] at a0
  obtain ⟨e1, e2, rfl⟩ := a0
  have e2' : m0 = m := by omega
  subst e1 e2'
  have hg := own_types h.oa d0 (by decide) g rfl
  refine ⟨ownsRow_setCell_other h.oa (by simp [Value.ownBlock]; intro e; subst e; exact hg rfl) _, h.glt, fun j h1 h2 => ?_, h.ne, h.bel.setCell (p := ⟨gu, k, none⟩) (d0.lt gu rfl).1 _, fun q h1 h2 => ?_⟩
  · by_cases hji : j = i
    · subst hji
      exact ⟨gu, m0, cu, xs0.set k z, hu, b0, c0, owns_set d0 k z⟩
    · obtain ⟨gj, mj, cj, xj, a, b, c, d⟩ := h.rows j h1 h2
      have := h.ne j i _ _ _ _ _ _ h1 (Nat.le_refl _) a hu hji
      exact ⟨gj, mj, cj, xj, a, b, c, ownsRow_setCell_other d (by simp [Value.ownBlock]; exact this) _⟩
  · rw [Below.heap_setCell _ _ _ _ (by show q ≠ gu; omega)]
    exact h.fr q h1 h2
theorem AM.size (h : AM B s1 w3 wr g cap N vs i) : w3.heap.size ≤ wr.heap.size := by
  have := h.bel.size
  exact this
/-- The i-th list has one number more. -/
theorem AM.push (h : AM B s1 w3 wr g cap N vs i) (hi : i < N) (hs : s1 ≤ w3.heap.size) {gu m cu : Nat} (hu : vs[i]? = some (.slice (some ⟨gu, 0, none⟩) (m + 1) cu)) {o : Obj} {w' : World} (hg : (wr.alloc o).grownBy w' (some gu)) (u' : Value) :
    AM B s1 w3 (w'.setCell ⟨g, i, none⟩ u') g cap N (vs.set i u') (i + 1) ∧ w'.cell? ⟨g, i, none⟩ = some (.slice (some ⟨gu, 0, none⟩) (m + 1) cu) ∧ w'.frozen? ⟨g, i, none⟩ = false := by
  obtain ⟨gu0, m0, cu0, xs0, a0, b0, c0, d0⟩ := h.rows i (Nat.le_refl _) hi
  rw [hu] at a0
  simp only [Option.some.injEq, Value.slice.injEq, Addr.mk.injEq, and_true] at a0
  obtain ⟨e1, e2, rfl⟩ := a0
  have e2' : m0 = m := by omega
  subst e1 e2'
  have hgu := own_types h.oa d0 (by decide) g rfl
  have hgne : ¬ g = gu := fun e => hgu (by rw [e]; rfl)
  have hsz := h.size
  have hoa' : w'.ownsRow B 22 1 (.slice (some ⟨g, 0, none⟩) N cap) N vs := (h.oa.alloc o).kept hg (.inr (by simp [Value.ownBlock]; exact hgne))
  have hvl : vs.length = N := by have := h.oa.1; simpa using this
  refine ⟨⟨(hoa'.stored i u').1, h.glt, fun j h1 h2 => ?_, fun j j' ga ga' ma ma' ca ca' h1 h2 h3 h4 hne => ?_, ?_, fun q h1 h2 => ?_⟩, by rw [hoa'.cellAt i (by omega)]; exact hu, hoa'.frozenAt i⟩
  · obtain ⟨gj, mj, cj, xj, a, b, c, d⟩ := h.rows j (by omega) h2
    have hne := h.ne j i _ _ _ _ _ _ (by omega) (Nat.le_refl _) a hu (by omega)
    have hgj := own_types h.oa d (by decide) g rfl
    refine ⟨gj, mj, cj, xj, by rw [List.getElem?_set_ne (by omega)]; exact a, b, c, ?_⟩
    have hd' := (d.alloc o).kept hg (.inr (by simp [Value.ownBlock]; exact hne))
    exact ownsRow_setCell_other hd' (by simp [Value.ownBlock]; intro e; subst e; exact hgj rfl) _
  · rw [List.getElem?_set_ne (by omega)] at h3 h4
    exact h.ne j j' ga ga' ma ma' ca ca' (by omega) (by omega) h3 h4 hne
  · have h1 : Below B w3 (wr.alloc o) := h.bel.alloc (Nat.le_trans (Nat.le_trans (h.oa.lt g rfl).1 (Nat.le_of_lt (h.oa.lt g rfl).2)) (Nat.le_refl _)) o
    have h2 : Below B w3 w' := h1.grown hg (Nat.le_trans (Nat.le_trans (h.oa.lt g rfl).1 (Nat.le_of_lt (h.oa.lt g rfl).2)) (by simp)) (fun q hq => by simp at hq; subst hq; exact (d0.lt gu rfl).1)
    exact h2.setCell (p := ⟨g, i, none⟩) (h.oa.lt g rfl).1 _
  · have hgl := h.glt
    rw [Below.heap_setCell _ _ _ _ (by show q ≠ g; omega), hg.block q (by simp; omega) (by simp; omega), Below.heap_alloc wr o q (by omega)]
    exact h.fr q h1 h2
end
/-- What lies beside stays. -/
theorem LO.frame {s1 : Nat} {w3 wr : World} {v : Value} {vs : List Value} {rs : List (List Nat)} (h : LO s1 w3 v vs rs) (hf : ∀ q, s1 ≤ q → q < w3.heap.size → wr.heap[q]? = w3.heap[q]?) : LO s1 wr v vs rs := by
  have key : ∀ {e n : Nat} {u : Value} {xs : List Value}, w3.ownsRow s1 e 1 u n xs → wr.ownsRow s1 e 1 u n xs := by
    intro e n u xs hu
    refine ⟨hu.1, ?_⟩
    rcases hu.2 with q | ⟨g, cap, cur, rfl, hb, hg, rest⟩
    · exact .inl q
    · exact .inr ⟨g, cap, cur, rfl, hb, (hf g hb (Array.getElem?_eq_some_iff.1 hg).1).trans hg, rest⟩
  exact ⟨key h.oa, fun j hj => by obtain ⟨u, h1, h2⟩ := h.rows j hj; exact ⟨u, h1, key h2⟩, h.ne⟩
theorem RunsLevels_walk (w : World) (a0 : Option Addr) (n0 cap0 : Nat) (lv : List Int) (h0 : Row .i64 w a0 n0 cap0 lv) (hf0 : ∀ x ∈ lv, (Lit.int .i64 x).wf = true) (hs0 : n0 * 8 ≤ 140737488351232) :
    Calls Try.prog 3 #[.slice a0 n0 cap0] w fun e w' => e = .returned (.bool true) ∧ Below w.heap.size w w' := by
  by_cases hbig : n0 ≤ 300
  · have e0 : ¬ ((300 : Int) < (n0 : Int)) := by omega
    obtain ⟨ii, hii, hy0, hy1, hy2⟩ := info_parts infoInt
    have HII : Hid (Try.prog.info? 3 = some ii) := hii
    have HY0 := hide hy0
    have HY1 := hide hy1
    have HY2 := hide hy2
    have H0 := hide h0
    have hka : KO w (w.alloc (.cells #[] 3)) := KO.alloc (KO.refl _) _
    have HKA := hide hka
    have HLV := hide (fun ao cap w' (h : Row .i64 w' ao n0 cap lv) => levels_any ao n0 cap lv w' h (by omega))
    have HRL := hide (fun ao cap w' (h : Row .i64 w' ao n0 cap lv) => rlevels_any ao n0 cap lv w' h (by omega))
    have hR := Rn.runs_of lv
    have hRl2 : (Rn.RS lv).length ≤ n0 := by have h1 := Rn.R_len lv lv.length; have := h0.len; unfold Rn.RS; omega
    have hRr : ∀ j, j < (Rn.RS lv).length → 0 < (Rn.rn (Rn.RS lv) j).length ∧ (Rn.rn (Rn.RS lv) j).length ≤ 2000 := fun j hj => ⟨hR.pos j hj, by
      have h1 := Rn.R_row lv lv.length j hj
      have h2 := h0.len
      have e : Rn.rn (Rn.RS lv) j = Rn.rn (Rn.R lv lv.length).2 j := rfl
      rw [e]
      omega⟩
    have HPOS := hide hR.pos
    have HRR := hide hRr
    generalize Rn.RS lv = rs at *
    generalize hNN : rs.length = N at *
    have HNN := hide hNN
    clear h0 hf0 hs0 hii hy0 hy1 hy2 hka hR hRr hNN
    go_enter Try.func3, Try.ntmps3
    go_wp2_with (at_builtin; refine wpList_append_row _ rfl (.tmp 12) (.tmp 13) 22 rfl w.heap.size 3 ii (.int .i64 0) 8 Try.underlying22 HII.out HY0.out HY1.out HY2.out rfl _ 0 [] rfl (owns_empty w 3 w.heap.size rfl) .i64 a0 n0 cap0 lv rfl (H0.out.below HKA.out) (by omega) (by omega) (by simp) ?_; intro v2 w1 hown2 hb2)
    rw [List.nil_append, Nat.zero_add] at hown2
    obtain ⟨a2, c2, rfl, hr2⟩ := row_of_owns hown2
    have k1 : KO w w1 := Below.trans HKA.out hb2
    have HR1 := hide hr2
    clear hown2 hb2 hr2
    have HM := hide (HLV.out a2 c2 w1 HR1.out)
    go_wp2_with fail
    refine HM.out.mono ?_
    rintro e w2 ⟨v, rfl, ⟨vs, hlo⟩, hb2⟩
    have HLO := hide hlo
    obtain ⟨av, cv, rfl, _⟩ := owns_form hlo.oa
    have k2 : KO w w2 := KO.on k1 hb2
    have HB2 := hide hb2
    have HMR := hide (HRL.out a0 cap0 w2 (H0.out.below k2))
    clear hlo hb2 HM HRL
    go_wp2_with fail
    refine HMR.out.mono ?_
    rintro e w3 ⟨v', rfl, ⟨vs', hlo'⟩, hb3⟩
    have HLO' := hide hlo'
    obtain ⟨ab, cb, rfl, _⟩ := owns_form hlo'.oa
    have k3 : KO w2 w3 := hb3
    rw [HNN.out]
    rw [HNN.out] at HLO HLO'
    obtain ⟨_, _, ee, lla⟩ := (HLO.out.below hb3).view (by rw [HNN.out]; exact HPOS.out)
    rw [HNN.out] at ee lla
    simp only [Value.slice.injEq, true_and] at ee
    obtain ⟨rfl, rfl⟩ := ee
    obtain ⟨_, _, ee, llb⟩ := HLO'.out.view (by rw [HNN.out]; exact HPOS.out)
    rw [HNN.out] at ee llb
    simp only [Value.slice.injEq, true_and] at ee
    obtain ⟨rfl, rfl⟩ := ee
    have HS := hide (same8_yes av ab N cv cb rs w3 lla llb (by omega))
    clear hlo' hb3 HMR lla llb
    go_wp2_with fail
    refine HS.out.mono ?_
    rintro e w4 ⟨rfl, q4, rfl⟩
    have HI := hide (ints_yes a2 a0 n0 c2 cap0 lv (w3.drewN q4) ((HR1.out.below (KO.on HB2.out k3)).below (below_drewN w3 q4)) ((H0.out.below (KO.on k2 k3)).below (below_drewN w3 q4)))
    clear HS
    go_wp2_with fail
    refine HI.out.mono ?_
    rintro e w5 ⟨rfl, q5, hq5⟩
    rw [World.drewN_drewN] at hq5
    subst hq5
    generalize q4 + q5 = q6 at *
    have hs12 : w1.heap.size ≤ w2.heap.size := HB2.out.size
    have hs23 : w2.heap.size ≤ w3.heap.size := k3.size
    have hs01 : w.heap.size ≤ w1.heap.size := k1.size
    have HAM0 := hide (show 0 < N → ∃ g vs, av = some ⟨g, 0, none⟩ ∧ AM w1.heap.size w2.heap.size w3 (w3.drewN q6) g cv N vs 0 from fun hN0 => by
      obtain ⟨g, c9, e9, _, _⟩ := owns_pos HLO.out.oa (by rw [HNN.out]; exact hN0)
      rw [HNN.out] at e9
      simp only [Value.slice.injEq] at e9
      obtain ⟨rfl, _, rfl⟩ := e9
      exact ⟨g, vs, rfl, (AM.begin HLO.out HNN.out k3 (by rw [HNN.out]; exact HRR.out)).drewN q6⟩)
    have HB36 := hide (show Below w1.heap.size w3 (w3.drewN q6) from (below_drewN w3 q6).mono (by omega))
    clear HI HLO
    go_wp2
    go_loopw [31] (fun s31 wr => ∃ i : Nat, i ≤ N ∧ s31 = .int .i64 (i : Int) ∧ Hid ((∀ q, w2.heap.size ≤ q → q < w3.heap.size → wr.heap[q]? = w3.heap[q]?) ∧ Below w1.heap.size w3 wr ∧ (i < N → ∃ g vs, av = some ⟨g, 0, none⟩ ∧ AM w1.heap.size w2.heap.size w3 wr g cv N vs i))) (fun s31 _ => N - (intOf s31).toNat)
    case atStart => exact ⟨0, Nat.zero_le _, rfl, hide ⟨fun q _ _ => rfl, HB36.out, HAM0.out⟩⟩
    case round =>
      obtain ⟨i, hi, rfl, hq⟩ := hrel
      have HQ := hide hq.out
      clear hq
      by_cases hiN : i < N
      · obtain ⟨g, vsa, rfl, ham⟩ := HQ.out.2.2 hiN
        obtain ⟨gu, m, cu, xs, hu, hgl, hm2, hou⟩ := ham.rows i (Nat.le_refl _) hiN
        have hvl : vsa.length = N := by have := ham.oa.1; simpa using this
        have ci : wr.cell? ⟨g, i, none⟩ = some (.slice (some ⟨gu, 0, none⟩) (m + 1) cu) := by rw [ham.oa.cellAt i (by omega)]; exact hu
        have hin : (i : Int) < (N : Int) := by omega
        have HAM := hide ham
        have HU := hide hu
        have HVL := hide hvl
        clear ham hou HQ HAM0 hu hvl
        go_wp2
        clear ci
        go_loopw [39] (fun s39 wr => ∃ k : Nat, k ≤ m + 1 ∧ s39 = .int .i64 (k : Int) ∧ Hid (AM w1.heap.size w2.heap.size w3 wr g cv N vsa i)) (fun s39 _ => m + 1 - (intOf s39).toNat)
        case atStart => exact ⟨0, Nat.zero_le _, rfl, HAM⟩
        case round =>
          obtain ⟨k, hk, rfl, hamk⟩ := hrel
          have HAK := hide hamk.out
          clear hamk
          obtain ⟨gu', m', cu', xs', hu', _, _, hou⟩ := HAK.out.rows i (Nat.le_refl _) hiN
          rw [HU.out] at hu'
          simp only [Option.some.injEq, Value.slice.injEq, Addr.mk.injEq, and_true] at hu'
          obtain ⟨e1, e2, rfl⟩ := hu'
          have e2' : m' = m := by omega
          subst e1 e2'
          have ci : wr.cell? ⟨g, i, none⟩ = some (.slice (some ⟨gu, 0, none⟩) (m' + 1) cu) := by rw [HAK.out.oa.cellAt i (by have := HVL.out; omega)]; exact HU.out
          by_cases hkm : k < m' + 1
          · have ck := owns_cell hou k hkm
            have fk := hou.frozenAt k
            have HP := hide (HAK.out.put hiN HU.out k (-7))
            have hkm2 : (k : Int) < (m' : Int) + 1 := by omega
            generalize xs'.getD k 0 = xo at *
            clear hou
            go_wp2
            exact ⟨⟨k + 1, by omega, by go_num, HP⟩, by simp [intOf]; omega⟩
          · obtain rfl : k = m' + 1 := by omega
            have hne : ¬ ((m' : Int) + 1 < (m' : Int) + 1) := by omega
            have hszr := HAK.out.size
            have HOU := hide hou
            have HPU := hide (fun (o : Obj) (w' : World) (hg : (wr.alloc o).grownBy w' (some gu)) (u' : Value) => HAK.out.push hiN hs23 HU.out hg u')
            clear hou
            go_wp2_with (at_builtin; refine wpList_append_own_at _ rfl (.tmp 54) (.tmp 55) 22 rfl w1.heap.size 3 ii (.int .i64 0) 1 8 Try.underlying22 HII.out HY0.out HY1.out HY2.out rfl (by decide) (.slice (some ⟨gu, 0, none⟩) (m' + 1) cu) (m' + 1) _ rfl (HOU.out.alloc _) ⟨wr.heap.size, 0, none⟩ 1 1 [.int .i64 (-9)] rfl rfl (cell_one_new _ _ _) (ints_oneCell .i64 [-9]) (by unfold maxLen; omega) (by omega) (by simp; omega) ?_; intro u8 w8 ho8 hg8 _ _; obtain ⟨g8, c8, rfl, _, _⟩ := owns_pos ho8 (by omega); obtain ⟨ha8, ca8, fa8⟩ := HPU.out _ _ hg8 (.slice (some ⟨g8, 0, none⟩) (m' + 1 + 1) c8))
            exact ⟨⟨i + 1, by omega, by go_num, hide ⟨ha8.fr, ha8.bel, fun _ => ⟨g, _, rfl, ha8⟩⟩⟩, by simp [intOf]; omega⟩
      · obtain rfl : i = N := by omega
        have hne : ¬ ((i : Int) < (i : Int)) := by omega
        obtain ⟨hfr, hbl, _⟩ := HQ.out
        have k9 : KO w wr := Below.trans (KO.on k2 k3) (hbl.mono hs01)
        have HLB := hide (HLO'.out.frame hfr)
        have HLV9 := hide (HLV.out a0 cap0 wr (H0.out.below k9))
        clear HQ HAM0 hfr hbl
        go_wp2_with fail
        refine HLV9.out.mono ?_
        rintro e w10 ⟨v10, rfl, ⟨vs10, hlo10⟩, hb10⟩
        obtain ⟨a10, c10, rfl, ll10⟩ := hlo10.view (by rw [HNN.out]; exact HPOS.out)
        obtain ⟨_, _, ee, llb⟩ := (HLB.out.below hb10).view (by rw [HNN.out]; exact HPOS.out)
        rw [HNN.out] at ee llb ll10 ⊢
        simp only [Value.slice.injEq, true_and] at ee
        obtain ⟨rfl, rfl⟩ := ee
        have HS := hide (same8_yes a10 ab i c10 cb rs w10 ll10 llb (by omega))
        have k10 : KO w w10 := KO.on k9 hb10
        clear hlo10 ll10 llb hb10 HLV9 HLB
        go_wp2_with fail
        refine HS.out.mono ?_
        rintro e w11 ⟨rfl, q11, rfl⟩
        have HW := hide (works8_any (w10.drewN q11))
        have k11 : KO w (w10.drewN q11) := KO.on k10 (below_drewN w10 q11)
        clear HS
        go_wp2_with fail
        refine HW.out.mono ?_
        rintro e w12 ⟨rfl, hb12⟩
        have k12 : KO w w12 := KO.on k11 hb12
        clear hb12 HW
        go_wp2_with fail
        go_ret
        exact ⟨rfl, k12⟩
  · have e0 : (300 : Int) < (n0 : Int) := by omega
    have HW := hide (works8_any w)
    clear h0 hf0 hs0 hbig
    go_enter Try.func3, Try.ntmps3
    go_wp2_with (go_at_call 9; refine HW.out.mono ?_; rintro e w1 ⟨rfl, hb1⟩)
    go_ret
    exact ⟨rfl, hb1⟩
end Go.Proofs.Ythohbiklnknofaa
