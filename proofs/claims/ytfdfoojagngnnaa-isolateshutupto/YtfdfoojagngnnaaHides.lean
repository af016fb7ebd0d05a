/- IsolateHides: the base direction does not hang on what lies in isolates. -/
import Derived.Test.YtfdfoojagngnnaaWorks
namespace Go.Proofs.Ytfdfoojagngnnaa
open Go.RowKit
set_option linter.unusedVariables false
set_option maxHeartbeats 2000000
set_option maxRecDepth 100000
theorem rowAt {w w' : World} {b off n cap : Nat} {zs : List Int} (h : Row .i64 w (some ⟨b, off, none⟩) n cap zs) (hk : KO w w') (j : Nat) (hj : j < n) : w'.cell? ⟨b, off + j, none⟩ = some (.int .i64 (zs.getD j 0)) := by
  obtain ⟨b2, o2, e, hb, hc⟩ := h.cells (by omega)
  simp only [Option.some.injEq, Addr.mk.injEq, and_true] at e
  obtain ⟨rfl, rfl⟩ := e
  exact (Below.cell hk (by exact hb)).trans (hc j (by rw [h.len]; exact hj))
theorem ownAt {w w' : World} {base n cap g : Nat} {zs : List Int} (h : w.ownsRow base 3 1 (.slice (some ⟨g, 0, none⟩) n cap) n (zs.map (Value.int .i64))) (hk : KO w w') (j : Nat) (hj : j < n) : w'.cell? ⟨g, j, none⟩ = some (.int .i64 (zs.getD j 0)) :=
  (Below.cell hk (by exact (h.lt g rfl).2)).trans (owns_cell h j hj)
/-- What may stand in place of a list's numbers, inside isolates. -/
structure Rel (c l : List Int) : Prop where
  len : l.length = c.length
  at' : ∀ i, i < c.length → l.getD i 0 = c.getD i 0 ∨ (0 < (Iso.stk c i).length ∧ Iso.st (c.getD i 0) = false ∧ ¬ c.getD i 0 = 23 ∧ Iso.st (l.getD i 0) = false ∧ ¬ l.getD i 0 = 23)
theorem getD_set' (l : List Int) (i j : Nat) (y : Int) (hi : i < l.length) : (l.set i y).getD j 0 = if i = j then y else l.getD j 0 := by
  by_cases h : i = j
  · subst h; simp [List.getD, hi]
  · rw [if_neg h]; simp [List.getD, List.getElem?_set_ne h]
theorem Rel.set {c l : List Int} (h : Rel c l) {i : Nat} {y : Int} (hi : i < c.length) (hd : 0 < Iso.dp c i) (h1 : Iso.st (c.getD i 0) = false) (h2 : ¬ c.getD i 0 = 23) (h3 : Iso.st y = false) (h4 : ¬ y = 23) : Rel c (l.set i y) := by
  refine ⟨by rw [List.length_set]; exact h.len, fun j hj => ?_⟩
  rw [getD_set' l i j y (by rw [h.len]; exact hi)]
  by_cases e : i = j
  · subst e
    rw [if_pos rfl]
    unfold Iso.dp at hd
    rw [if_neg h2] at hd
    exact .inr ⟨hd, h1, h2, h3, h4⟩
  · rw [if_neg e]; exact h.at' j hj
theorem Rel.base {c l : List Int} (h : Rel c l) : Iso.bso 0 l = Iso.bso 0 c := Iso.bso_hides h.len h.at' c.length 0 (by omega)
structure HI (w : World) (c : List Int) (n : Nat) (v : Value) (l : List Int) (wr : World) : Prop where
  own : wr.ownsRow w.heap.size 3 1 v n (l.map (Value.int .i64))
  rel : Rel c l
  bel : KO w wr
theorem HI.set {w : World} {c : List Int} {n g cap : Nat} {l : List Int} {wr : World} (h : HI w c n (.slice (some ⟨g, 0, none⟩) n cap) l wr) {i : Nat} {y : Int} (hr : Rel c (l.set i y)) : HI w c n (.slice (some ⟨g, 0, none⟩) n cap) (l.set i y) (wr.setCell ⟨g, i, none⟩ (.int .i64 y)) :=
  ⟨owns_set h.own i y, hr, Below.setCell h.bel (p := ⟨g, i, none⟩) (h.own.lt g rfl).1 _⟩
theorem meas_n0 (n k : Nat) (h : k < n) : n - (intOf (.int .i64 ((k : Int) + 1))).toNat < n - (intOf (.int .i64 (k : Int))).toNat := by simp [intOf]; omega
theorem take_all {c : List Int} {n : Nat} (h : c.length = n) : (c.take n).drop 0 = c := by subst h; simp
theorem IsolateHides_walk (w : World) (a0 : Option Addr) (n0 cap0 : Nat) (c : List Int) (h0 : Row .i64 w a0 n0 cap0 c) (hf0 : ∀ x ∈ c, (Lit.int .i64 x).wf = true) (hs0 : n0 * 8 ≤ 140737488351232)
    (a1 : Option Addr) (n1 cap1 : Nat) (os : List Int) (h1 : Row .i64 w a1 n1 cap1 os) (hf1 : ∀ x ∈ os, (Lit.int .i64 x).wf = true) (hs1 : n1 * 8 ≤ 140737488351232) :
    Calls Try.prog 6 #[.slice a0 n0 cap0, .slice a1 n1 cap1] w fun e w' => e = .returned (.bool true) ∧ Below w.heap.size w w' := by
  obtain ⟨ii, hii, hy0, hy1, hy2⟩ := info_parts infoInt
  have HII : Hid (Try.prog.info? 3 = some ii) := hii
  have HY0 := hide hy0
  have HY1 := hide hy1
  have HY2 := hide hy2
  have HD := hide (depth_any a0 n0 cap0 c w h0 hs0)
  have H0 := hide h0
  have H1 := hide h1
  have HN := hide hs0
  have HL := hide h0.len
  have hn2 : n0 ≤ 17592186044416 := by omega
  have hn3 : n1 ≤ 17592186044416 := by omega
  clear h0 hf0 hs0 h1 hf1 hs1 hii hy0 hy1 hy2
  go_enter Try.func6, Try.ntmps6
  go_wp2_with fail
  refine HD.out.mono ?_
  rintro e w1 ⟨rfl, ho1, hb1⟩
  have HO1 := hide ho1
  have k1 : KO w w1 := hb1
  have HW := hide (works_any w1)
  clear ho1 hb1 HD
  go_wp2_with fail
  refine HW.out.mono ?_
  rintro e w2 ⟨rfl, hb2⟩
  have k12 : KO w1 w2 := hb2
  have k2 : KO w w2 := KO.on k1 k12
  have HKA := hide (show KO w2 (w2.alloc (.cells #[] 3)) from KO.alloc (KO.refl _) _)
  clear HW hb2
  go_wp2_with (at_builtin; refine wpList_append_row _ rfl (.tmp 23) (.tmp 24) 22 rfl w2.heap.size 3 ii (.int .i64 0) 8 Try.underlying22 HII.out HY0.out HY1.out HY2.out rfl _ 0 [] rfl (owns_empty w2 3 w2.heap.size rfl) .i64 a0 n0 cap0 c rfl (H0.out.below (KO.on k2 HKA.out)) (by have := HN.out; omega) (by omega) (by simp) ?_; intro v3 w3 hown3 hb3; rw [List.nil_append, Nat.zero_add] at hown3; obtain ⟨a3, c3, rfl, _⟩ := owns_form hown3)
  have HI3 := hide (show HI w2 c n0 _ c w3 from ⟨hown3, ⟨rfl, fun i _ => .inl rfl⟩, Below.trans HKA.out hb3⟩)
  have HDC := hide (fun (w' : World) (hk : KO w2 w') (j : Nat) (hj : j < n0) => ownAt HO1.out (KO.on k12 hk) j hj)
  have HDA := hide (fun (j : Nat) (hj : j < n0) => Iso.DP_at c j (by rw [HL.out]; exact hj))
  have HCC := hide (fun (w' : World) (hk : KO w2 w') (b off : Nat) (hr : Row .i64 w (some ⟨b, off, none⟩) n0 cap0 c) (j : Nat) (hj : j < n0) => rowAt hr (KO.on k2 hk) j hj)
  have HOC := hide (fun (w' : World) (hk : KO w2 w') (b off : Nat) (hr : Row .i64 w (some ⟨b, off, none⟩) n1 cap1 os) (j : Nat) (hj : j < n1) => rowAt hr (KO.on k2 hk) j hj)
  have HK2 := hide k2
  clear hown3 hb3 k1 k12 k2 HKA HO1
  generalize w.heap.size = G1 at HDC
  go_wp2_with fail
  go_loopw [28] (fun v wr => ∃ i : Nat, i ≤ n0 ∧ v = .int .i64 (i : Int) ∧ ∃ l, Hid (HI w2 c n0 (.slice a3 n0 c3) l wr)) (fun v _ => n0 - (intOf v).toNat)
  case atStart => exact ⟨0, Nat.zero_le _, rfl, c, HI3⟩
  case round =>
    obtain ⟨i, hi, rfl, l, hI⟩ := hrel
    by_cases hlt : i < n0
    · have hil : i < c.length := by rw [HL.out]; exact hlt
      have hk : KO w2 wr := hI.out.bel
      obtain ⟨g, c4, e4, hgl, _⟩ := owns_pos hI.out.own (by omega)
      simp only [Value.slice.injEq] at e4
      obtain ⟨rfl, _, rfl⟩ := e4
      obtain ⟨b, off, rfl, hbl, hc⟩ := H0.out.cells (by omega)
      have cc := HCC.out wr hk b off H0.out i hlt
      have cd := HDC.out wr hk i hlt
      rw [HDA.out i hlt] at cd
      have hin : (i : Int) < (n0 : Int) := by omega
      have HT := hide (starts_any (c.getD i 0) wr)
      have co := owns_cell hI.out.own i hlt
      have hfz := hI.out.own.frozenAt i
      generalize l.getD i 0 = old at co
      have HSET := hide (fun (y : Int) (q1 : 0 < Iso.dp c i) (q2 : Iso.st (c.getD i 0) = false) (q3 : ¬ c.getD i 0 = 23) (q4 : Iso.st y = false) (q5 : ¬ y = 23) => hI.out.set (hI.out.rel.set hil q1 q2 q3 q4 q5))
      have MEAS := hide (meas_n0 n0 i hlt)
      generalize c.getD i 0 = x at *
      generalize Iso.dp c i = D at *
      clear hc hil hk
      by_cases hD : 0 < D
      · have hD2 : (0 : Int) < (D : Int) := by omega
        by_cases h1n : i < n1
        · have h1n2 : (i : Int) < (n1 : Int) := by omega
          cases hs : Iso.st x with
          | true =>
            rw [hs] at HT
            clear HSET hs
            go_wp2_with (go_at_call 17; refine HT.out.mono ?_; rintro e w' ⟨rfl, rfl⟩)
            exact ⟨⟨i + 1, by omega, by go_num, l, hI⟩, MEAS.out⟩
          | false =>
            rw [hs] at HT
            by_cases hx : x = 23
            · clear HSET hs
              subst hx
              go_wp2_with (go_at_call 17; refine HT.out.mono ?_; rintro e w' ⟨rfl, rfl⟩)
              exact ⟨⟨i + 1, by omega, by go_num, l, hI⟩, MEAS.out⟩
            · have hx2 : (x == 23) = false := beq_false_of_ne hx
              obtain ⟨b1, off1, rfl, hbl1, hc1⟩ := H1.out.cells (by omega)
              have cy := HOC.out wr hI.out.bel b1 off1 H1.out i h1n
              have HTY := hide (starts_any (os.getD i 0) wr)
              generalize os.getD i 0 = y at *
              clear hc1
              have HSY := hide (fun q4 q5 => HSET.out y hD hs hx q4 q5)
              clear hs HSET
              cases hsy : Iso.st y with
              | true =>
                rw [hsy] at HTY
                clear hsy
                go_wp2_with fail
                refine HT.out.mono ?_
                rintro e w' ⟨rfl, rfl⟩
                go_wp2_with fail
                refine HTY.out.mono ?_
                rintro e w' ⟨rfl, rfl⟩
                go_wp2_with fail
                exact ⟨⟨i + 1, by omega, by go_num, l, hI⟩, MEAS.out⟩
              | false =>
                rw [hsy] at HTY
                by_cases hyx : y = 23
                · clear hsy HSY
                  subst hyx
                  go_wp2_with fail
                  refine HT.out.mono ?_
                  rintro e w' ⟨rfl, rfl⟩
                  go_wp2_with fail
                  refine HTY.out.mono ?_
                  rintro e w' ⟨rfl, rfl⟩
                  go_wp2_with fail
                  exact ⟨⟨i + 1, by omega, by go_num, l, hI⟩, MEAS.out⟩
                · have hy3 : (y != 23) = true := bne_iff_ne.2 hyx
                  have hx3 : (x != 23) = true := bne_iff_ne.2 hx
                  have HS := hide (HSY.out hsy hyx)
                  clear hsy HSY
                  go_wp2_with fail
                  refine HT.out.mono ?_
                  rintro e w' ⟨rfl, rfl⟩
                  go_wp2_with fail
                  refine HTY.out.mono ?_
                  rintro e w' ⟨rfl, rfl⟩
                  go_wp2_with fail
                  exact ⟨⟨i + 1, by omega, by go_num, _, HS⟩, MEAS.out⟩
        · have h1n2 : ¬ ((i : Int) < (n1 : Int)) := by omega
          clear HSET
          go_wp2_with fail
          exact ⟨⟨i + 1, by omega, by go_num, l, hI⟩, MEAS.out⟩
      · obtain rfl : D = 0 := by omega
        clear HSET
        go_wp2_with fail
        exact ⟨⟨i + 1, by omega, by go_num, l, hI⟩, MEAS.out⟩
    · have hne : ¬ ((i : Int) < (n0 : Int)) := by omega
      have k0 := KO.on HK2.out hI.out.bel
      have hr := hI.out.rel.base
      obtain ⟨a5, c5, e5, hr5⟩ := row_of_owns hI.out.own
      simp only [Value.slice.injEq] at e5
      obtain ⟨rfl, _, rfl⟩ := e5
      have B1 := base_ok a0 n0 cap0 c 0 n0 wr (H0.out.below k0) HN.out (Nat.zero_le _) (Nat.le_refl _)
      have B2 := base_ok a3 n0 c3 l 0 n0 wr hr5 HN.out (Nat.zero_le _) (Nat.le_refl _)
      rw [take_all HL.out] at B1
      rw [take_all (by rw [hI.out.rel.len]; exact HL.out), hr] at B2
      have hR := Iso.bso_two c 0
      generalize Iso.bso 0 c = R at *
      have HB1 := hide B1
      have HB2 := hide B2
      have HE := hide (show Below w.heap.size w wr from k0)
      clear B1 B2 hr hr5 hI k0
      rcases hR with rfl | rfl
      all_goals
        go_wp2_with fail
        refine HB1.out.mono ?_
        rintro e w' ⟨rfl, rfl⟩
        go_wp2_with fail
        refine HB2.out.mono ?_
        rintro e w' ⟨rfl, rfl⟩
        go_wp2_with fail
        go_ret
        exact ⟨rfl, HE.out⟩
end Go.Proofs.Ytfdfoojagngnnaa
