/- OrderCuts: a line's levels are the paragraph's, or its base level. -/
import Derived.Test.YtanoifkegfalgabWorks13
namespace Go.Proofs.Ytanoifkegfalgab
open Go.RowKit
set_option linter.unusedVariables false
set_option maxHeartbeats 3200000
set_option maxRecDepth 100000
theorem mid_at (l : List Int) {fr to i : Nat} (hi : i < to - fr) : (mid l fr to).getD i 0 = l.getD (fr + i) 0 := by
  unfold mid
  rw [getD_take hi]
  simp [List.getD, List.getElem?_drop]
/-- What Line answers. -/
def LA (nc nl : Nat) (c l : List Int) (base fr to : Int) (L : List Int) (E : Int) : Prop :=
  (¬ LineGood nc nl l base ∧ L = [] ∧ E = 2) ∨ (LineGood nc nl l base ∧ (fr < 0 ∨ (nl : Int) < to ∨ to < fr) ∧ L = [] ∧ E = 4) ∨
  (LineGood nc nl l base ∧ ¬ (fr < 0 ∨ (nl : Int) < to ∨ to < fr) ∧ L = Od.LX (mid c fr.toNat to.toNat) (mid l fr.toNat to.toNat) base (to.toNat - fr.toNat) 0 ∧ E = 0)
theorem LA_some (nc nl : Nat) (c l : List Int) (base fr to : Int) : ∃ L E, LA nc nl c l base fr to L E := by
  by_cases h1 : LineGood nc nl l base
  · by_cases h2 : fr < 0 ∨ (nl : Int) < to ∨ to < fr
    · exact ⟨_, _, .inr (.inl ⟨h1, h2, rfl, rfl⟩)⟩
    · exact ⟨_, _, .inr (.inr ⟨h1, h2, rfl, rfl⟩)⟩
  · exact ⟨_, _, .inl ⟨h1, rfl, rfl⟩⟩
theorem line_any (ac al : Option Addr) (nc cc nl cl : Nat) (c l : List Int) (base fr to : Int) (w : World) (hc : Row .i64 w ac nc cc c) (hl : Row .i64 w al nl cl l) (hn : nl * 8 ≤ 140737488351232) (L : List Int) (E : Int) (hA : LA nc nl c l base fr to L E) :
    Calls Try.prog 7 #[.slice ac nc cc, .slice al nl cl, .int .i64 base, .int .i64 fr, .int .i64 to] w fun e w' => ∃ a c, e = .returned (.tuple #[.slice a L.length c, .int .i64 E]) ∧ Row .i64 w' a L.length c L ∧ KO w w' := by
  rcases hA with hA | hA | hA
  · obtain ⟨h1, hL, hE⟩ := hA
    subst hL hE
    refine (line_arg ac al nc cc nl cl l base fr to w hl h1).mono ?_
    rintro e w' ⟨e0, e1⟩
    exact ⟨none, 0, e0, row_nil _ _, by rw [← e1]; exact KO.refl _⟩
  · obtain ⟨h1, h2, hL, hE⟩ := hA
    subst hL hE
    obtain rfl : nc = nl := h1.1
    refine (line_range ac al nc cc cl l base fr to w hl h1 h2).mono ?_
    rintro e w' ⟨e0, e1⟩
    exact ⟨none, 0, e0, row_nil _ _, by rw [← e1]; exact KO.refl _⟩
  · obtain ⟨h1, h2, hL, hE⟩ := hA
    subst hE
    obtain rfl : nc = nl := h1.1
    obtain ⟨f, rfl⟩ : ∃ f : Nat, fr = (f : Int) := ⟨fr.toNat, by omega⟩
    obtain ⟨u, rfl⟩ : ∃ u : Nat, to = (u : Int) := ⟨to.toNat, by omega⟩
    rw [Int.toNat_natCast, Int.toNat_natCast] at hL
    have hO := line_ok ac al nc cc cl f u c l base w hc hl h1 (by omega) (by omega) hn
    rw [← hL] at hO
    refine hO.mono ?_
    rintro e w' ⟨v, e0, ho, hk⟩
    obtain ⟨a, c, e1, hr⟩ := row_any ho
    exact ⟨a, c, by rw [e0, e1], hr, hk⟩
/-- What is asked of one place: n is its level in the line, v its level in the paragraph, x its class. -/
def Cut1 (base x n v : Int) (last : Bool) : Prop :=
  (n = v ∨ (¬ n = v ∧ n = base ∧ 0 ≤ v)) ∧ (Od.sep x = false → Od.loose x = false → n = v) ∧ (Od.sep x = true → 0 ≤ v → n = base) ∧ (Od.loose x = true → last = true → 0 ≤ v → n = base)
theorem cut1_of {c l : List Int} {base : Int} {fr to i : Nat} (hf : Od.Fo l) (hto : to ≤ l.length) (hi : i < to - fr) :
    Cut1 base (c.getD (fr + i) 0) ((Od.LX (mid c fr to) (mid l fr to) base (to - fr) 0).getD i 0) (l.getD (fr + i) 0) (decide (i = to - fr - 1)) := by
  rw [Od.LX_at hi, if_pos (Nat.zero_le _), ← mid_at c hi, ← mid_at l hi]
  have hr := hf (fr + i) (by omega)
  rw [← mid_at l hi] at hr
  have hneg : ¬ (mid l fr to).getD i 0 = -1 ↔ 0 ≤ (mid l fr to).getD i 0 := by omega
  refine ⟨?_, fun h1 h2 => Od.lx_keeps h1 h2, fun h1 h2 => Od.lx_sep h1 (hneg.2 h2), fun h1 h2 h3 => ?_⟩
  · rcases Od.lx_or (c := mid c fr to) (l := mid l fr to) (base := base) (n := to - fr) i with h | ⟨h1, h2⟩
    · exact .inl h
    · by_cases e : Od.lx (mid c fr to) (mid l fr to) base (to - fr) i = (mid l fr to).getD i 0
      · exact .inl e
      · exact .inr ⟨e, h1, hneg.1 h2⟩
  · have e : i = to - fr - 1 := by simpa using h2
    subst e
    exact Od.lx_last (by omega) h1 (hneg.2 h3)
theorem class_cases (x : Int) : (x = 13 ∧ Od.loose x = true ∧ Od.sep x = false) ∨ (((x == 13) = false ∧ 20 ≤ x ∧ x ≤ 23 ∧ (x == 12) = false ∧ (x == 11) = false) ∧ Od.loose x = true ∧ Od.sep x = false) ∨ (x = 12 ∧ Od.loose x = false ∧ Od.sep x = true) ∨ (x = 11 ∧ Od.loose x = false ∧ Od.sep x = true) ∨
    (((x == 13) = false ∧ ¬ 20 ≤ x ∧ (x == 12) = false ∧ (x == 11) = false) ∧ Od.loose x = false ∧ Od.sep x = false) ∨ (((x == 13) = false ∧ 20 ≤ x ∧ ¬ x ≤ 23 ∧ (x == 12) = false ∧ (x == 11) = false) ∧ Od.loose x = false ∧ Od.sep x = false) := by
  have hb : ∀ k : Int, ¬ x = k → (x == k) = false := fun k h => beq_eq_false_iff_ne.2 h
  have hl : ∀ {b : Bool}, (b = true ↔ (x = 13 ∨ (20 ≤ x ∧ x ≤ 23))) → Od.loose x = b := fun h => Bool.eq_iff_iff.2 (Od.loose_iff.trans h.symm)
  have hs : ∀ {b : Bool}, (b = true ↔ (x = 12 ∨ x = 11)) → Od.sep x = b := fun h => Bool.eq_iff_iff.2 (Od.sep_iff.trans h.symm)
  by_cases h1 : x = 13
  · exact .inl ⟨h1, hl (by simp; omega), hs (by simp; omega)⟩
  by_cases h3 : x = 12
  · exact .inr (.inr (.inl ⟨h3, hl (by simp; omega), hs (by simp; omega)⟩))
  by_cases h4 : x = 11
  · exact .inr (.inr (.inr (.inl ⟨h4, hl (by simp; omega), hs (by simp; omega)⟩)))
  by_cases h5 : 20 ≤ x
  · by_cases h6 : x ≤ 23
    · exact .inr (.inl ⟨⟨hb _ h1, h5, h6, hb _ h3, hb _ h4⟩, hl (by simp; omega), hs (by simp; omega)⟩)
    · exact .inr (.inr (.inr (.inr (.inr ⟨⟨hb _ h1, h5, h6, hb _ h3, hb _ h4⟩, hl (by simp; omega), hs (by simp; omega)⟩))))
  · exact .inr (.inr (.inr (.inr (.inl ⟨⟨hb _ h1, h5, hb _ h3, hb _ h4⟩, hl (by simp; omega), hs (by simp; omega)⟩))))
theorem OrderCuts_walk (w : World) (a0 : Option Addr) (n0 cap0 : Nat) (c : List Int) (h0 : Row .i64 w a0 n0 cap0 c) (hf0 : ∀ x ∈ c, (Lit.int .i64 x).wf = true) (hs0 : n0 * 8 ≤ 140737488351232)
    (a1 : Option Addr) (n1 cap1 : Nat) (l : List Int) (h1 : Row .i64 w a1 n1 cap1 l) (hf1 : ∀ x ∈ l, (Lit.int .i64 x).wf = true) (hs1 : n1 * 8 ≤ 140737488351232) (base fr to : Int) (hwb : (Lit.int .i64 base).wf = true) (hwf : (Lit.int .i64 fr).wf = true) (hwt : (Lit.int .i64 to).wf = true) :
    Calls Try.prog 4 #[.agg #[.slice a0 n0 cap0, .slice a1 n1 cap1, .int .i64 base, .int .i64 fr, .int .i64 to]] w fun e w' => e = .returned (.bool true) ∧ Below w.heap.size w w' := by
  obtain ⟨X, hX⟩ : ∃ X : World, X = w.alloc (.cells #[.slice a0 n0 cap0, .slice a1 n1 cap1, .int .i64 base, .int .i64 fr, .int .i64 to] 31) := ⟨_, rfl⟩
  have HW := hide (works13_any X)
  have HKX := hide (show KO w X from by rw [hX]; exact KO.alloc (KO.refl w) _)
  have HCX : Hid (∀ W, KO X W → W.cell? ⟨w.heap.size, 0, none⟩ = some (.slice a0 n0 cap0) ∧ W.cell? ⟨w.heap.size, 1, none⟩ = some (.slice a1 n1 cap1) ∧ W.cell? ⟨w.heap.size, 2, none⟩ = some (.int .i64 base) ∧ W.cell? ⟨w.heap.size, 3, none⟩ = some (.int .i64 fr) ∧ W.cell? ⟨w.heap.size, 4, none⟩ = some (.int .i64 to)) := hide (fun W hk => by
    have hlt : w.heap.size < X.heap.size := by rw [hX]; simp
    have hh : W.heap[w.heap.size]? = some (.cells #[.slice a0 n0 cap0, .slice a1 n1 cap1, .int .i64 base, .int .i64 fr, .int .i64 to] 31 (0, 0)) := (Below.block hk _ hlt).trans (by rw [hX]; exact heap_alloc_new w _)
    simp [World.cell?, hh])
  obtain ⟨L, E, hA⟩ := LA_some n0 n1 c l base fr to
  have HL := hide (fun (W : World) (hk : KO w W) => line_any a0 a1 n0 cap0 n1 cap1 c l base fr to W (h0.below hk) (h1.below hk) hs1 L E hA)
  have H0 := hide h0
  have H1 := hide h1
  clear h0 h1 hf0 hf1 hwb
  subst hX
  go_enter Try.func4, Try.ntmps4
  go_wp2_with fail
  refine HW.out.mono ?_
  rintro e w1 ⟨rfl, hk1⟩
  have K1 := hide (KO.on HKX.out hk1)
  have HC1 := hide (fun W (hk : KO w1 W) => HCX.out W (KO.on hk1 hk))
  obtain ⟨d0, d1, d2, d3, d4⟩ := HC1.out w1 (KO.refl w1)
  have HL1 := hide (HL.out w1 K1.out)
  clear hk1 HW HKX HCX HL
  go_wp2_with fail
  refine HL1.out.mono ?_
  rintro e w2 ⟨a2, c2, rfl, hr2, hk2⟩
  have K2 := hide hk2
  have R2 := hide hr2
  have HC2 := hide (fun W (hk : KO w2 W) => HC1.out W (KO.on hk2 hk))
  clear hr2 hk2 HL1 d0 d1 d2 d3 d4 HC1
  obtain ⟨d0, d1, d2, d3, d4⟩ := HC2.out w2 (KO.refl w2)
  rcases hA with hA | hA | hA
  · obtain ⟨_, hL, hE⟩ := hA
    subst hL hE
    clear R2 HC2
    go_wp2
    go_ret
    exact ⟨rfl, KO.on K1.out K2.out⟩
  · obtain ⟨_, _, hL, hE⟩ := hA
    subst hL hE
    clear R2 HC2
    go_wp2
    go_ret
    exact ⟨rfl, KO.on K1.out K2.out⟩
  · obtain ⟨hg, hr, hL, hE⟩ := hA
    subst hE
    obtain rfl : n0 = n1 := hg.1
    obtain ⟨f, rfl⟩ : ∃ f : Nat, fr = (f : Int) := ⟨fr.toNat, by omega⟩
    obtain ⟨u, rfl⟩ : ∃ u : Nat, to = (u : Int) := ⟨to.toNat, by omega⟩
    rw [Int.toNat_natCast, Int.toNat_natCast] at hL
    have hfu : f ≤ u := by omega
    have hun : u ≤ n0 := by omega
    have hll : L.length = u - f := by rw [hL]; exact Od.LX_len _
    have HLL := hide hll
    have HCU : Hid (∀ i, i < u - f → Cut1 base (c.getD (f + i) 0) (L.getD i 0) (l.getD (f + i) 0) (decide (i = u - f - 1))) := hide (fun i hi => by
      rw [hL]
      exact cut1_of hg.2.2.2 (by rw [H1.out.len]; exact hun) hi)
    rw [hll] at R2 ⊢
    clear hL hg hr hll hwf hwt
    generalize hD : u - f = D at *
    have hn0 : n0 ≤ 17592186044416 := by omega
    have hsub : (u : Int) - (f : Int) = (D : Int) := by omega
    have hDD : ((D : Int) != (D : Int)) = false := by simp
    have HD : Hid (u - f = D) := hide hD
    clear hD
    go_wp2
    go_loopw [5, 6, 7, 8, 9, 10, 42] (fun s5 s6 s7 s8 s9 s10 s42 W => ∃ i : Nat, s42 = .int .i64 (i : Int) ∧ i ≤ D ∧ Hid (KO w2 W)) (fun _ _ _ _ _ _ s42 _ => D - (intOf s42).toNat)
    case atStart => exact ⟨0, rfl, Nat.zero_le _, hide (KO.refl w2)⟩
    case round =>
      clear d0 d1 d2 d3 d4
      obtain ⟨i, rfl, hi, hkw⟩ := hrel
      by_cases hlt : i < D
      · have hin : (i : Int) < (D : Int) := by omega
        have hfin : f + i < n0 := by have := HD.out; omega
        have hfin2 : (f : Int) + (i : Int) < (n0 : Int) := by omega
        have hfe : (f : Int) + (i : Int) = ((f + i : Nat) : Int) := by omega
        have hfw : IntKind.i64.wrap ((f : Int) + (i : Int)) = ((f + i : Nat) : Int) := by rw [IntKind.wrap_i64]; omega
        have hfn : ((f + i : Nat) : Int) < (n0 : Int) := by omega
        obtain ⟨b2, o2, rfl, hb2, hc2⟩ := R2.out.cells (by omega)
        obtain ⟨b0, o0, rfl, hb0, hc0⟩ := H0.out.cells (by omega)
        obtain ⟨b1, o1, rfl, hb1, hc1⟩ := H1.out.cells (by omega)
        have g2 := (Below.cell hkw.out (by exact hb2)).trans (hc2 i (by rw [HLL.out]; exact hlt))
        have HKW := hide (KO.on K1.out (KO.on K2.out hkw.out))
        have g0 := (Below.cell HKW.out (by exact hb0)).trans (hc0 (f + i) (by rw [H0.out.len]; exact hfin))
        have g1 := (Below.cell HKW.out (by exact hb1)).trans (hc1 (f + i) (by rw [H1.out.len]; exact hfin))
        have hcut := HCU.out i hlt
        obtain ⟨d0, d1, d2, d3, d4⟩ := HC2.out wr hkw.out
        clear hc0 hc1 hc2
        generalize L.getD i 0 = n at g2 hcut
        generalize c.getD (f + i) 0 = x at g0 hcut
        generalize l.getD (f + i) 0 = v at g1 hcut
        have HCT := hide hcut
        clear hcut
        generalize hj : f + i = j at *
        clear hj
        go_wp2_with fail
        go_quiet (fail)
        have HK4 := hide (KO.on hkw.out (below_drewN wr nq))
        obtain ⟨_, _, q2, _, _⟩ := HC2.out _ HK4.out
        clear d0 d1 d2 d3 d4 g0 g1 g2 HKW hkw
        generalize wr.drewN nq = w4 at *
        obtain ⟨hA, hB, hC, hDD2⟩ := HCT.out
        clear HCT
        have hnn : (n != n) = false := by simp
        rcases class_cases x with ⟨hx, hl, hs⟩ | ⟨hx, hl, hs⟩ | ⟨hx, hl, hs⟩ | ⟨hx, hl, hs⟩ | ⟨hx, hl, hs⟩ | ⟨hx, hl, hs⟩
        · subst hx
          have hD1 : i = D - 1 → 0 ≤ v → n = base := fun q1 q2 => hDD2 hl (by simpa using q1) q2
          clear hB hC hDD2 hl hs
          rcases hA with e | ⟨e1, e2, e3⟩
          · subst e
            by_cases hlast : i = D - 1
            · have hlb : ((i : Int) == (D : Int) - 1) = true := by rw [beq_iff_eq]; omega
              by_cases hv : 0 ≤ n
              · have hnb : (n != base) = false := by rw [hD1 hlast hv]; simp
                clear hD1
                go_wp2
                go_roundw
                case rel => exact ⟨i + 1, by go_num, by omega, HK4⟩
                case measure => simp [intOf]; omega
              · clear hD1
                go_wp2
                go_roundw
                case rel => exact ⟨i + 1, by go_num, by omega, HK4⟩
                case measure => simp [intOf]; omega
            · have hlb : ((i : Int) == (D : Int) - 1) = false := by rw [beq_eq_false_iff_ne]; omega
              clear hD1
              go_wp2
              go_roundw
              case rel => exact ⟨i + 1, by go_num, by omega, HK4⟩
              case measure => simp [intOf]; omega
          · have hnv : (n != v) = true := bne_iff_ne.2 e1
            have hnb : (n != base) = false := by rw [e2]; simp
            have e4 : ¬ v < 0 := by omega
            clear e1 e2
            by_cases hlast : i = D - 1
            · have hlb : ((i : Int) == (D : Int) - 1) = true := by rw [beq_iff_eq]; omega
              clear hD1
              go_wp2
              go_roundw
              case rel => exact ⟨i + 1, by go_num, by omega, HK4⟩
              case measure => simp [intOf]; omega
            · have hlb : ((i : Int) == (D : Int) - 1) = false := by rw [beq_eq_false_iff_ne]; omega
              clear hD1
              go_wp2
              go_roundw
              case rel => exact ⟨i + 1, by go_num, by omega, HK4⟩
              case measure => simp [intOf]; omega
        · obtain ⟨x1, x2, x3, x4, x5⟩ := hx
          have hD1 : i = D - 1 → 0 ≤ v → n = base := fun q1 q2 => hDD2 hl (by simpa using q1) q2
          clear hB hC hDD2 hl hs
          rcases hA with e | ⟨e1, e2, e3⟩
          · subst e
            by_cases hlast : i = D - 1
            · have hlb : ((i : Int) == (D : Int) - 1) = true := by rw [beq_iff_eq]; omega
              by_cases hv : 0 ≤ n
              · have hnb : (n != base) = false := by rw [hD1 hlast hv]; simp
                clear hD1
                go_wp2
                go_roundw
                case rel => exact ⟨i + 1, by go_num, by omega, HK4⟩
                case measure => simp [intOf]; omega
              · clear hD1
                go_wp2
                go_roundw
                case rel => exact ⟨i + 1, by go_num, by omega, HK4⟩
                case measure => simp [intOf]; omega
            · have hlb : ((i : Int) == (D : Int) - 1) = false := by rw [beq_eq_false_iff_ne]; omega
              clear hD1
              go_wp2
              go_roundw
              case rel => exact ⟨i + 1, by go_num, by omega, HK4⟩
              case measure => simp [intOf]; omega
          · have hnv : (n != v) = true := bne_iff_ne.2 e1
            have hnb : (n != base) = false := by rw [e2]; simp
            have e4 : ¬ v < 0 := by omega
            clear e1 e2
            by_cases hlast : i = D - 1
            · have hlb : ((i : Int) == (D : Int) - 1) = true := by rw [beq_iff_eq]; omega
              clear hD1
              go_wp2
              go_roundw
              case rel => exact ⟨i + 1, by go_num, by omega, HK4⟩
              case measure => simp [intOf]; omega
            · have hlb : ((i : Int) == (D : Int) - 1) = false := by rw [beq_eq_false_iff_ne]; omega
              clear hD1
              go_wp2
              go_roundw
              case rel => exact ⟨i + 1, by go_num, by omega, HK4⟩
              case measure => simp [intOf]; omega
        · subst hx
          have hC1 : 0 ≤ v → n = base := hC hs
          clear hB hC hDD2 hl hs
          rcases hA with e | ⟨e1, e2, e3⟩
          · subst e
            by_cases hv : 0 ≤ n
            · have hnb : (n != base) = false := by rw [hC1 hv]; simp
              clear hC1
              go_wp2
              go_roundw
              case rel => exact ⟨i + 1, by go_num, by omega, HK4⟩
              case measure => simp [intOf]; omega
            · clear hC1
              go_wp2
              go_roundw
              case rel => exact ⟨i + 1, by go_num, by omega, HK4⟩
              case measure => simp [intOf]; omega
          · have hnv : (n != v) = true := bne_iff_ne.2 e1
            have hnb : (n != base) = false := by rw [e2]; simp
            have e4 : ¬ v < 0 := by omega
            clear e1 e2 hC1
            go_wp2
            go_roundw
            case rel => exact ⟨i + 1, by go_num, by omega, HK4⟩
            case measure => simp [intOf]; omega
        · subst hx
          have hC1 : 0 ≤ v → n = base := hC hs
          clear hB hC hDD2 hl hs
          rcases hA with e | ⟨e1, e2, e3⟩
          · subst e
            by_cases hv : 0 ≤ n
            · have hnb : (n != base) = false := by rw [hC1 hv]; simp
              clear hC1
              go_wp2
              go_roundw
              case rel => exact ⟨i + 1, by go_num, by omega, HK4⟩
              case measure => simp [intOf]; omega
            · clear hC1
              go_wp2
              go_roundw
              case rel => exact ⟨i + 1, by go_num, by omega, HK4⟩
              case measure => simp [intOf]; omega
          · have hnv : (n != v) = true := bne_iff_ne.2 e1
            have hnb : (n != base) = false := by rw [e2]; simp
            have e4 : ¬ v < 0 := by omega
            clear e1 e2 hC1
            go_wp2
            go_roundw
            case rel => exact ⟨i + 1, by go_num, by omega, HK4⟩
            case measure => simp [intOf]; omega
        · obtain ⟨x1, x2, x3, x4⟩ := hx
          have e : n = v := hB hs hl
          clear hA hB hC hDD2 hl hs
          subst e
          go_wp2
          go_roundw
          case rel => exact ⟨i + 1, by go_num, by omega, HK4⟩
          case measure => simp [intOf]; omega
        · obtain ⟨x1, x2, x3, x4, x5⟩ := hx
          have e : n = v := hB hs hl
          clear hA hB hC hDD2 hl hs
          subst e
          go_wp2
          go_roundw
          case rel => exact ⟨i + 1, by go_num, by omega, HK4⟩
          case measure => simp [intOf]; omega
      · obtain rfl : D = i := by omega
        have hne : ¬ (D : Int) < (D : Int) := by omega
        go_wp2
        go_ret
        exact ⟨rfl, KO.on K1.out (KO.on K2.out hkw.out)⟩
end Go.Proofs.Ytanoifkegfalgab
