import Derived.Test.YtmdmehopefgndaaGreatDoorZ34
import Derived.Test.YtmdmehopefgndaaGreatDoorZ09
import Derived.Test.YtmdmehopefgndaaGreatDoorZ32
import Derived.Test.YtmdmehopefgndaaGreatDoorZ29
import Derived.Test.YtmdmehopefgndaaGreatDoorZ01
import Derived.Test.YtmdmehopefgndaaGreatDoorZ23
/- Paragraph: its contract. -/
namespace Go.Proofs.YtmdmehopefgndaaGreatDoor
open Go.RowKit
set_option linter.unusedVariables false
set_option maxHeartbeats 1000000
set_option maxRecDepth 100000
theorem bb3 (base : Int) : (Rn.BB base ∧ ¬ base < -1 ∧ ¬ 1 < base) ∨ (¬ Rn.BB base ∧ base < -1) ∨ (¬ Rn.BB base ∧ ¬ base < -1 ∧ 1 < base) := by
  unfold Rn.BB
  omega
/-- What Paragraph answers, in memory. -/
def RPA (w : World) (m : Int) (L : List Int) (E : Int) (e : Ending) (w' : World) : Prop := ∃ a1 c1, e = .returned (.tuple #[.int .i64 m, .slice a1 L.length c1, .int .i64 E]) ∧ Row .i64 w' a1 L.length c1 L ∧ KO w w'
theorem RPA.err {w w' : World} {E : Int} (hk : KO w w') : RPA w 0 [] E (.returned (.tuple #[.int .i64 0, .slice none 0 0, .int .i64 E])) w' := ⟨none, 0, rfl, row_nil _ _, hk⟩
theorem paragraph_any (ao : Option Addr) (n cap : Nat) (l : List Int) (base : Int) (w : World) (h : Row .i32 w ao n cap l) (hf : ∀ x ∈ l, (Lit.int .i32 x).wf = true) (hM : Marks w) (hn : n ≤ 2000 ∨ 4096 < n) (m : Int) (L : List Int) (E : Int) (hA : Rn.PA l base m L E) :
    Calls Tryz.prog 16 #[.slice ao n cap, .int .i64 base] w (RPA w m L E) := by
  have hl := h.len
  rcases bb3 base with ⟨hb, h1, h2⟩ | ⟨hb, h1⟩ | ⟨hb, h1, h2⟩
  · by_cases hbig : 4096 < n
    · obtain ⟨rfl, rfl, rfl⟩ : m = 0 ∧ L = [] ∧ E = 3 := by
        rcases hA with ⟨q, _⟩ | ⟨_, _, q⟩ | ⟨_, q, _⟩ | ⟨_, q, _⟩
        · exact absurd hb q
        · exact q
        · omega
        · omega
      have hbig2 : (4096 : Int) < (n : Int) := by omega
      clear h hf hA hl hb hM hn
      go_enter Tryz.func16, Tryz.ntmps16
      go_wp2
      go_ret3
      exact RPA.err (KO.refl _)
    · have hbig2 : ¬ (4096 : Int) < (n : Int) := by omega
      have hn2 : n ≤ 2000 := by omega
      have hE : (¬ Ex.Formed (Rn.cl l) ∧ m = 0 ∧ L = [] ∧ E = 50) ∨ (Ex.Formed (Rn.cl l) ∧ m = Rn.bl base l ∧ L = Rn.VS l (Rn.bl base l) ∧ E = 0) := by
        rcases hA with ⟨q, _⟩ | ⟨_, q, _⟩ | ⟨_, _, q⟩ | ⟨_, _, q⟩
        · exact absurd hb q
        · omega
        · exact .inl q
        · exact .inr q
      have HC := hide (classes_any ao n cap l w h hf (by omega))
      have h2b := Rn.bl_two hb l
      have hcl : (Rn.cl l).length = n := by rw [Rn.cl_len, hl]
      have HB := hide (fun W (h0 : Row .i64 W (some ⟨w.heap.size, 0, none⟩) n n (Rn.cl l)) => (show Calls Tryz.prog 30 #[.slice (some ⟨w.heap.size, 0, none⟩) n n, .int .i64 0, .int .i64 (n : Int)] W fun e w' => e = .returned (.tuple #[.int .i64 (Iso.bso 0 (Rn.cl l)), .int .i64 0]) ∧ W = w' from by
        have := base_ok (some ⟨w.heap.size, 0, none⟩) n n (Rn.cl l) 0 n W h0 (by omega) (Nat.zero_le _) (Nat.le_refl _)
        rw [List.take_of_length_le (by rw [hcl]; exact Nat.le_refl _), List.drop_zero] at this
        exact this))
      have hbl : (base = -1 ∧ Rn.bl base l = Iso.bso 0 (Rn.cl l)) ∨ (¬ base = -1 ∧ Rn.bl base l = base) := by
        unfold Rn.bl
        by_cases e : base = -1
        · exact .inl ⟨e, if_pos e⟩
        · exact .inr ⟨e, if_neg e⟩
      have HP := hide (fun W b (hk : KO w W) (h0 : Row .i64 W (some ⟨w.heap.size, 0, none⟩) n n (Rn.cl l)) (hb' : b = 0 ∨ b = 1) => And.intro (fun hF => placeLevels_any ao (some ⟨w.heap.size, 0, none⟩) n cap n l b W (h.below hk) h0 hf (hM.below hk) hn2 hb' hF) (fun hF => placeLevels_form ao (some ⟨w.heap.size, 0, none⟩) n cap n l b W h0 (by omega) hb' hF))
      have HVL := hide (show (Rn.VS l (Rn.bl base l)).length = n from by rw [Rn.VS_len, hl])
      clear h hf hM hA hb hl hcl
      generalize hbb : Rn.bl base l = bb at *
      have HHB : ∀ W (h0 : Row .i64 W (some ⟨w.heap.size, 0, none⟩) n n (Rn.cl l)) (hk : KO w W), Calls Tryz.prog 31 #[.slice ao n cap, .slice (some ⟨w.heap.size, 0, none⟩) n n, .int .i64 bb] W fun e w' => ∃ a1 c1, e = .returned (.tuple #[.slice a1 L.length c1, .int .i64 E]) ∧ Row .i64 w' a1 L.length c1 L ∧ KO W w' ∧ ((E = 0 ∧ m = bb) ∨ (¬ E = 0 ∧ m = 0 ∧ L = [])) := by
        intro W h0 hk
        rcases hE with ⟨hF, rfl, rfl, rfl⟩ | ⟨hF, rfl, rfl, rfl⟩
        · refine ((HP.out W bb hk h0 h2b).2 hF).mono ?_
          rintro e w' ⟨rfl, rfl⟩
          exact ⟨none, 0, rfl, row_nil _ _, KO.refl _, .inr ⟨by decide, rfl, rfl⟩⟩
        · refine ((HP.out W _ hk h0 h2b).1 hF).mono ?_
          rintro e w' ⟨a1, c1, rfl, hr, hk2⟩
          rw [HVL.out]
          exact ⟨a1, c1, rfl, hr, hk2, .inl ⟨rfl, rfl⟩⟩
      have HH := hide HHB
      clear hE HVL HHB HP hbb
      rcases hbl with ⟨rfl, hbl⟩ | ⟨hbl1, hbl⟩
      · rw [← hbl] at HB
        clear hbl
        go_enter Tryz.func16, Tryz.ntmps16
        go_wp2_with fail
        refine HC.out.mono ?_
        rintro e w1 ⟨rfl, hn1⟩
        have HB1 := hide (HB.out w1 hn1.row)
        have HH1 := hide (HH.out w1 hn1.row hn1.bel)
        have HK1 := hide hn1.bel
        clear hn1 HB HH HC
        go_wp2_with fail
        refine HB1.out.mono ?_
        rintro e w2 ⟨rfl, rfl⟩
        go_wp2_with fail
        refine HH1.out.mono ?_
        rintro e w3 ⟨a1, c1, rfl, hr, hk, hE⟩
        have HR := hide (And.intro hr (KO.on HK1.out hk))
        clear hr hk HH1 HB1 HK1
        rcases hE with ⟨rfl, rfl⟩ | ⟨hE, rfl, rfl⟩
        · go_wp2
          go_ret3
          exact ⟨_, _, rfl, HR.out.1, HR.out.2⟩
        · have hEb : (E != 0) = true := bne_iff_ne.2 hE
          go_wp2
          go_ret3
          exact RPA.err HR.out.2
      · subst hbl
        clear HB
        have hbq : (bb == -1) = false := beq_false_of_ne hbl1
        go_enter Tryz.func16, Tryz.ntmps16
        go_wp2_with fail
        refine HC.out.mono ?_
        rintro e w1 ⟨rfl, hn1⟩
        have HH1 := hide (HH.out w1 hn1.row hn1.bel)
        have HK1 := hide hn1.bel
        clear hn1 HH HC
        go_wp2_with fail
        refine HH1.out.mono ?_
        rintro e w3 ⟨a1, c1, rfl, hr, hk, hE⟩
        have HR := hide (And.intro hr (KO.on HK1.out hk))
        clear hr hk HH1 HK1
        rcases hE with ⟨rfl, rfl⟩ | ⟨hE, rfl, rfl⟩
        · go_wp2
          go_ret3
          exact ⟨_, _, rfl, HR.out.1, HR.out.2⟩
        · have hEb : (E != 0) = true := bne_iff_ne.2 hE
          go_wp2
          go_ret3
          exact RPA.err HR.out.2
  · obtain ⟨rfl, rfl, rfl⟩ : m = 0 ∧ L = [] ∧ E = 2 := by
      rcases hA with ⟨_, q⟩ | ⟨q, _⟩ | ⟨q, _⟩ | ⟨q, _⟩
      · exact q
      all_goals exact absurd q hb
    clear h hf hA hb hl hM hn
    go_enter Tryz.func16, Tryz.ntmps16
    go_wp2
    go_ret3
    exact RPA.err (KO.refl _)
  · obtain ⟨rfl, rfl, rfl⟩ : m = 0 ∧ L = [] ∧ E = 2 := by
      rcases hA with ⟨_, q⟩ | ⟨q, _⟩ | ⟨q, _⟩ | ⟨q, _⟩
      · exact q
      all_goals exact absurd q hb
    clear h hf hA hb hl hM hn
    go_enter Tryz.func16, Tryz.ntmps16
    go_wp2
    go_ret3
    exact RPA.err (KO.refl _)
end Go.Proofs.YtmdmehopefgndaaGreatDoor

/- A paragraph as one line: the law's helper, by contract. -/
namespace Go.Proofs.YtmdmehopefgndaaGreatDoor
open Go.RowKit
set_option linter.unusedVariables false
set_option maxHeartbeats 1600000
set_option maxRecDepth 100000
theorem tline_any (ao : Option Addr) (n cap : Nat) (l : List Int) (base : Int) (w : World) (h : Row .i32 w ao n cap l) (hf : ∀ x ∈ l, (Lit.int .i32 x).wf = true) (hM : Marks w) (hn : n ≤ 300) (m : Int) (X S : List Int) (E : Int) (hA : TA l base m X S E) :
    Calls Tryz.prog 7 #[.slice ao n cap, .int .i64 base] w fun e w' => ∃ a c, e = .returned (.tuple #[.slice a X.length c, .int .i64 m, .int .i64 E]) ∧ Row .i64 w' a X.length c X ∧ KO w w' := by
  by_cases hE : E = 0
  · subst hE
    have hl := h.len
    have hXn : X.length = n := by rw [(TA_show hA).1, hl]
    obtain ⟨L, hPA, ⟨_, hX, _⟩ | ⟨h0, _⟩⟩ := hA
    · have hF := top_facts hPA
      have hLn : L.length = n := by rw [hF.len, hl]
      have HP := hide (paragraph_any ao n cap l base w h hf hM (by omega) m L 0 hPA)
      have HC := hide (fun (W : World) (hk : KO w W) => classes_any ao n cap l W (h.below hk) hf (by omega))
      have HL := hide (fun (ac al : Option Addr) (cc cl : Nat) (W : World) (hc : Row .i64 W ac n cc (Rn.cl l)) (hl : Row .i64 W al n cl L) =>
        show Calls Tryz.prog 17 #[.slice ac n cc, .slice al n cl, .int .i64 m, .int .i64 0, .int .i64 (n : Int)] W _ from line_ok ac al n cc cl 0 n (Rn.cl l) L m W hc hl ⟨rfl, by have := hF.two; omega, by have := hF.two; omega, hF.fo⟩ (Nat.zero_le _) (Nat.le_refl _) (by omega))
      rw [TL_line hF hl, ← hX] at HL
      unfold RPA at HP
      rw [hLn] at HP
      have HXn := hide hXn
      clear hX hPA hF h hf hM hl hLn
      generalize Rn.cl l = C at *
      rw [HXn.out]
      clear hXn
      go_enter Tryz.func7, Tryz.ntmps7
      go_wp2_with fail
      refine HP.out.mono ?_
      rintro e w1 ⟨a1, c1, rfl, hr1, hk1⟩
      have HK1 := hide hk1
      have HR1 := hide hr1
      have HC1 := hide (HC.out w1 hk1)
      clear hr1 hk1 HP HC
      go_wp2_with fail
      refine HC1.out.mono ?_
      rintro e w2 ⟨rfl, hnr⟩
      have HK2 := hide (KO.on HK1.out hnr.bel)
      have HL2 := hide (HL.out _ _ _ _ w2 hnr.row (HR1.out.below hnr.bel))
      clear hnr HC1 HL
      go_wp2_with fail
      refine HL2.out.mono ?_
      rintro e w3 ⟨v, rfl, ho, hk3⟩
      obtain ⟨a3, c3, ev, hr3⟩ := row_any ho
      rw [HXn.out] at ev hr3
      subst ev
      have HK3 := hide (KO.on HK2.out hk3)
      have HR3 := hide hr3
      clear ho hk3 hr3 HL2
      go_wp2
      go_ret3
      exact ⟨a3, c3, rfl, HR3.out, HK3.out⟩
    · exact absurd rfl h0
  · obtain ⟨hm, hX, _⟩ := TA_no hA hE
    obtain ⟨L, hPA, _⟩ := hA
    have HP := hide (paragraph_any ao n cap l base w h hf hM (by omega) m L E hPA)
    have hEb : (E != 0) = true := bne_iff_ne.2 hE
    unfold RPA at HP
    subst hm hX
    clear hPA h hf hM
    generalize L.length = N at *
    go_enter Tryz.func7, Tryz.ntmps7
    go_wp2_with fail
    refine HP.out.mono ?_
    rintro e w1 ⟨a1, c1, rfl, hr1, hk1⟩
    have HK1 := hide hk1
    clear hr1 hk1 HP
    go_wp2
    go_ret3
    exact ⟨none, 0, rfl, row_nil _ _, HK1.out⟩
end Go.Proofs.YtmdmehopefgndaaGreatDoor

/- The fewest runs of what is marked: plain mathematics. -/
namespace Go.Proofs.YtmdmehopefgndaaGreatDoor
set_option linter.unusedVariables false
namespace Pk
/-- A run begins here. -/
def bg (q : Nat → Bool) (a : Nat) : Bool := q a && (a == 0 || !q (a - 1))
theorem bg_iff {q : Nat → Bool} {a : Nat} : bg q a = true ↔ q a = true ∧ (a = 0 ∨ q (a - 1) = false) := by unfold bg; simp
/-- Where the run that goes on from b ends. -/
def enf (q : Nat → Bool) : Nat → Nat → Nat
  | 0, b => b
  | d + 1, b => if q b = true then enf q d (b + 1) else b
theorem enf_ok {q : Nat → Bool} : ∀ d b, b ≤ enf q d b ∧ enf q d b ≤ b + d ∧ (∀ k, b ≤ k → k < enf q d b → q k = true) ∧ (enf q d b < b + d → q (enf q d b) = false)
  | 0, b => ⟨Nat.le_refl _, Nat.le_refl _, fun k h1 h2 => by simp only [enf] at h2; omega, fun h => by simp only [enf] at h; omega⟩
  | d + 1, b => by
    unfold enf
    by_cases h : q b = true
    · rw [if_pos h]
      obtain ⟨h1, h2, h3, h4⟩ := enf_ok (q := q) d (b + 1)
      refine ⟨by omega, by omega, fun k g1 g2 => ?_, fun g => h4 (by omega)⟩
      by_cases e : k = b
      · subst e; exact h
      · exact h3 k (by omega) g2
    · rw [if_neg h]
      exact ⟨Nat.le_refl _, by omega, fun k g1 g2 => by omega, fun _ => by simpa using h⟩
def en (q : Nat → Bool) (m a : Nat) : Nat := enf q (m - a) a
theorem en_ok {q : Nat → Bool} {m a : Nat} (h : a < m) (hq : q a = true) : a < en q m a ∧ en q m a ≤ m ∧ (∀ k, a ≤ k → k < en q m a → q k = true) ∧ (en q m a < m → q (en q m a) = false) := by
  obtain ⟨h1, h2, h3, h4⟩ := enf_ok (q := q) (m - a) a
  have h5 : en q m a ≠ a := fun e => by
    have h6 : enf q (m - a) a = a := e
    have := h4 (by omega)
    rw [h6, hq] at this
    cases this
  have h6 : a ≤ en q m a := h1
  have h7 : en q m a ≤ a + (m - a) := h2
  refine ⟨by omega, by omega, h3, fun g => h4 ?_⟩
  have h8 : enf q (m - a) a < m := g
  omega
theorem en_eq {q : Nat → Bool} {m a b : Nat} (ha : a < m) (hab : a < b) (hb : b ≤ m) (hq : ∀ k, a ≤ k → k < b → q k = true) (he : b < m → q b = false) : en q m a = b := by
  obtain ⟨h1, h2, h3, h4⟩ := en_ok ha (hq a (Nat.le_refl _) hab)
  rcases Nat.lt_trichotomy (en q m a) b with g | g | g
  · have h5 := h4 (by omega)
    rw [hq _ (by omega) g] at h5
    cases h5
  · exact g
  · have h5 := h3 b (by omega) g
    rw [he (by omega)] at h5
    cases h5
/-- The runs that begin ahead of a. -/
def RB (q : Nat → Bool) (m a : Nat) : List (Nat × Nat) := ((List.range a).filter (bg q)).map fun x => (x, en q m x)
def RU (q : Nat → Bool) (m : Nat) : List (Nat × Nat) := RB q m m
theorem RB_in {q : Nat → Bool} {m a : Nat} (h : bg q a = true) : RB q m (a + 1) = RB q m a ++ [(a, en q m a)] := by
  unfold RB
  rw [List.range_succ, List.filter_append]
  simp [h]
theorem RB_out {q : Nat → Bool} {m a : Nat} (h : bg q a = false) : RB q m (a + 1) = RB q m a := by
  unfold RB
  rw [List.range_succ, List.filter_append]
  simp [h]
theorem RB_len (q : Nat → Bool) (m a : Nat) : (RB q m a).length ≤ a := by
  unfold RB
  rw [List.length_map]
  have := List.length_filter_le (bg q) (List.range a)
  rw [List.length_range] at this
  exact this
theorem RU_mem {q : Nat → Bool} {m : Nat} {p : Nat × Nat} : p ∈ RU q m ↔ p.1 < m ∧ bg q p.1 = true ∧ p.2 = en q m p.1 := by
  unfold RU RB
  rw [List.mem_map]
  constructor
  · rintro ⟨x, hx, rfl⟩
    obtain ⟨h1, h2⟩ := List.mem_filter.1 hx
    exact ⟨List.mem_range.1 h1, h2, rfl⟩
  · rintro ⟨h1, h2, h3⟩
    exact ⟨p.1, List.mem_filter.2 ⟨List.mem_range.2 h1, h2⟩, by rw [← h3]⟩
/-- What is known of a run. -/
theorem RU_run {q : Nat → Bool} {m : Nat} {p : Nat × Nat} (h : p ∈ RU q m) : p.1 < p.2 ∧ p.2 ≤ m ∧ (∀ k, p.1 ≤ k → k < p.2 → q k = true) ∧ (p.2 < m → q p.2 = false) := by
  obtain ⟨h1, h2, h3⟩ := RU_mem.1 h
  have h4 := en_ok h1 (bg_iff.1 h2).1
  rw [← h3] at h4
  exact h4
/-- Runs rise, and something that is not marked stands between them. -/
theorem RU_rise (q : Nat → Bool) (m : Nat) : (RU q m).Pairwise fun x y => x.2 < y.1 := by
  have h : ((List.range m).filter (bg q)).Pairwise (fun x y => x < y) := List.Pairwise.filter _ List.pairwise_lt_range
  unfold RU RB
  rw [List.pairwise_map]
  refine h.imp_of_mem ?_
  intro x y hx hy hxy
  obtain ⟨x1, x2⟩ := List.mem_filter.1 hx
  obtain ⟨y1, y2⟩ := List.mem_filter.1 hy
  have x3 := List.mem_range.1 x1
  have y3 := List.mem_range.1 y1
  obtain ⟨h1, h2, h3, h4⟩ := en_ok x3 (bg_iff.1 x2).1
  rcases (bg_iff.1 y2).2 with q0 | q0
  · omega
  · show en q m x < y
    rcases Nat.lt_or_ge (en q m x) y with g | g
    · exact g
    · have h5 := h3 (y - 1) (by omega) (by omega)
      rw [q0] at h5
      cases h5
/-- What is marked lies in a run. -/
theorem RU_cover {q : Nat → Bool} {m : Nat} : ∀ k, k < m → q k = true → ∃ p ∈ RU q m, p.1 ≤ k ∧ k < p.2
  | 0, hk, hq => by
    refine ⟨(0, en q m 0), RU_mem.2 ⟨hk, bg_iff.2 ⟨hq, .inl rfl⟩, rfl⟩, Nat.le_refl _, ?_⟩
    exact (en_ok hk hq).1
  | k + 1, hk, hq => by
    by_cases h : q k = true
    · obtain ⟨p, h1, h2, h3⟩ := RU_cover (q := q) (m := m) k (by omega) h
      obtain ⟨g1, g2, g3, g4⟩ := RU_run h1
      have h5 : k + 1 < p.2 := by
        rcases Nat.lt_or_ge (k + 1) p.2 with g | g
        · exact g
        · have e : p.2 = k + 1 := by omega
          have := g4 (by omega)
          rw [e, hq] at this
          cases this
      exact ⟨p, h1, by omega, h5⟩
    · refine ⟨(k + 1, en q m (k + 1)), RU_mem.2 ⟨hk, bg_iff.2 ⟨hq, .inr (by simpa using h)⟩, rfl⟩, Nat.le_refl _, ?_⟩
      exact (en_ok hk hq).1
theorem RU_in {q : Nat → Bool} {m k : Nat} (hk : k < m) : q k = true ↔ ∃ p ∈ RU q m, p.1 ≤ k ∧ k < p.2 := by
  constructor
  · exact RU_cover k hk
  · rintro ⟨p, h1, h2, h3⟩
    exact (RU_run h1).2.2.1 k h2 h3
/-- Whatever rises so, lies within m, and has just what is marked, is the list of runs. -/
theorem rise_eq : ∀ (P Q : List (Nat × Nat)), P.Pairwise (fun x y => x.2 < y.1) → Q.Pairwise (fun x y => x.2 < y.1) → (∀ p ∈ P, p.1 < p.2) → (∀ p ∈ Q, p.1 < p.2) → (∀ k, (∃ p ∈ P, p.1 ≤ k ∧ k < p.2) ↔ ∃ p ∈ Q, p.1 ≤ k ∧ k < p.2) → P = Q
  | [], [], _, _, _, _, _ => rfl
  | [], y :: Q, _, _, _, hy, h => by
    obtain ⟨p, hp, _⟩ := (h y.1).2 ⟨y, List.mem_cons_self, Nat.le_refl _, hy y List.mem_cons_self⟩
    cases hp
  | x :: P, [], _, _, hx, _, h => by
    obtain ⟨p, hp, _⟩ := (h x.1).1 ⟨x, List.mem_cons_self, Nat.le_refl _, hx x List.mem_cons_self⟩
    cases hp
  | x :: P, y :: Q, hP, hQ, hx, hy, h => by
    obtain ⟨hP1, hP2⟩ := List.pairwise_cons.1 hP
    obtain ⟨hQ1, hQ2⟩ := List.pairwise_cons.1 hQ
    have x0 := hx x List.mem_cons_self
    have y0 := hy y List.mem_cons_self
    have lowP : ∀ p ∈ x :: P, x.1 ≤ p.1 := fun p hp => by
      rcases List.mem_cons.1 hp with rfl | hp
      · exact Nat.le_refl _
      · have := hP1 p hp; omega
    have lowQ : ∀ p ∈ y :: Q, y.1 ≤ p.1 := fun p hp => by
      rcases List.mem_cons.1 hp with rfl | hp
      · exact Nat.le_refl _
      · have := hQ1 p hp; omega
    have e1 : x.1 = y.1 := by
      obtain ⟨p, hp, h1, h2⟩ := (h x.1).1 ⟨x, List.mem_cons_self, Nat.le_refl _, x0⟩
      obtain ⟨r, hr, g1, g2⟩ := (h y.1).2 ⟨y, List.mem_cons_self, Nat.le_refl _, y0⟩
      have := lowQ p hp
      have := lowP r hr
      omega
    have e2 : x.2 = y.2 := by
      rcases Nat.lt_trichotomy x.2 y.2 with g | g | g
      · obtain ⟨p, hp, h1, h2⟩ := (h x.2).2 ⟨y, List.mem_cons_self, by omega, g⟩
        rcases List.mem_cons.1 hp with rfl | hp
        · omega
        · have := hP1 p hp; omega
      · exact g
      · obtain ⟨p, hp, h1, h2⟩ := (h y.2).1 ⟨x, List.mem_cons_self, by omega, g⟩
        rcases List.mem_cons.1 hp with rfl | hp
        · omega
        · have := hQ1 p hp; omega
    have exy : x = y := Prod.ext e1 e2
    subst exy
    rw [rise_eq P Q hP2 hQ2 (fun p hp => hx p (List.mem_cons_of_mem _ hp)) (fun p hp => hy p (List.mem_cons_of_mem _ hp)) fun k => ?_]
    constructor
    · rintro ⟨p, hp, h1, h2⟩
      obtain ⟨r, hr, g1, g2⟩ := (h k).1 ⟨p, List.mem_cons_of_mem _ hp, h1, h2⟩
      rcases List.mem_cons.1 hr with rfl | hr
      · have := hP1 p hp; omega
      · exact ⟨r, hr, g1, g2⟩
    · rintro ⟨p, hp, h1, h2⟩
      obtain ⟨r, hr, g1, g2⟩ := (h k).2 ⟨p, List.mem_cons_of_mem _ hp, h1, h2⟩
      rcases List.mem_cons.1 hr with rfl | hr
      · have := hQ1 p hp; omega
      · exact ⟨r, hr, g1, g2⟩
theorem RU_unique {q : Nat → Bool} {m : Nat} {P : List (Nat × Nat)} (h1 : P.Pairwise fun x y => x.2 < y.1) (h2 : ∀ p ∈ P, p.1 < p.2 ∧ p.2 ≤ m) (h3 : ∀ k, k < m → (q k = true ↔ ∃ p ∈ P, p.1 ≤ k ∧ k < p.2)) : P = RU q m := by
  refine rise_eq P _ h1 (RU_rise q m) (fun p hp => (h2 p hp).1) (fun p hp => (RU_run hp).1) fun k => ?_
  by_cases hk : k < m
  · rw [← h3 k hk, RU_in hk]
  · constructor
    · rintro ⟨p, hp, g1, g2⟩
      have := (h2 p hp).2; omega
    · rintro ⟨p, hp, g1, g2⟩
      have := (RU_run hp).2.1; omega
end Pk
end Go.Proofs.YtmdmehopefgndaaGreatDoor

/- The runs of what is marked, met from the left: plain mathematics. -/
namespace Go.Proofs.YtmdmehopefgndaaGreatDoor
set_option linter.unusedVariables false
namespace Pk
/-- Where the run begins that column k would go on with. -/
def sb (q : Nat → Bool) : Nat → Nat
  | 0 => 0
  | k + 1 => if q k = true then sb q k else k + 1
/-- The runs that have ended ahead of column k. -/
def yl (q : Nat → Bool) : Nat → List (Nat × Nat)
  | 0 => []
  | k + 1 => if q k = true then yl q k else if sb q k < k then yl q k ++ [(sb q k, k)] else yl q k
section
variable {q : Nat → Bool}
theorem sb_in {k : Nat} (h : q k = true) : sb q (k + 1) = sb q k := by rw [sb, if_pos h]
theorem sb_out {k : Nat} (h : ¬ q k = true) : sb q (k + 1) = k + 1 := by rw [sb, if_neg h]
theorem yl_in {k : Nat} (h : q k = true) : yl q (k + 1) = yl q k := by rw [yl, if_pos h]
theorem yl_put {k : Nat} (h : ¬ q k = true) (h2 : sb q k < k) : yl q (k + 1) = yl q k ++ [(sb q k, k)] := by rw [yl, if_neg h, if_pos h2]
theorem yl_same {k : Nat} (h : ¬ q k = true) (h2 : ¬ sb q k < k) : yl q (k + 1) = yl q k := by rw [yl, if_neg h, if_neg h2]
theorem sb_le : ∀ k, sb q k ≤ k
  | 0 => Nat.le_refl _
  | k + 1 => by have := sb_le k; rw [sb]; split <;> omega
theorem sb_all : ∀ k j, sb q k ≤ j → j < k → q j = true
  | 0, j, _, h => absurd h (by omega)
  | k + 1, j, h1, h2 => by
    by_cases h : q k = true
    · rw [sb_in h] at h1
      by_cases e : j = k
      · rw [e]; exact h
      · exact sb_all k j h1 (by omega)
    · rw [sb_out h] at h1; omega
theorem yl_run : ∀ k p, p ∈ yl q k → p.1 < p.2 ∧ p.2 + 1 ≤ sb q k
  | 0, p, h => by simp [yl] at h
  | k + 1, p, h => by
    by_cases hq : q k = true
    · rw [yl_in hq] at h; rw [sb_in hq]; exact yl_run k p h
    · rw [sb_out hq]
      have h0 := sb_le (q := q) k
      by_cases h2 : sb q k < k
      · rw [yl_put hq h2] at h
        rcases List.mem_append.1 h with h | h
        · have := yl_run k p h; omega
        · rw [List.mem_singleton] at h; subst h; exact ⟨h2, Nat.le_refl _⟩
      · rw [yl_same hq h2] at h
        have := yl_run k p h; omega
theorem yl_rise : ∀ k, (yl q k).Pairwise fun x y => x.2 < y.1
  | 0 => by simp [yl]
  | k + 1 => by
    by_cases hq : q k = true
    · rw [yl_in hq]; exact yl_rise k
    · by_cases h2 : sb q k < k
      · rw [yl_put hq h2, List.pairwise_append]
        refine ⟨yl_rise k, by simp, fun x hx y hy => ?_⟩
        rw [List.mem_singleton] at hy
        subst hy
        have := yl_run k x hx
        show x.2 < sb q k
        omega
      · rw [yl_same hq h2]; exact yl_rise k
theorem yl_has : ∀ k j, j < k → (q j = true ↔ (∃ p ∈ yl q k, p.1 ≤ j ∧ j < p.2) ∨ sb q k ≤ j)
  | 0, j, h => absurd h (by omega)
  | k + 1, j, h => by
    by_cases hq : q k = true
    · rw [yl_in hq, sb_in hq]
      by_cases e : j = k
      · subst e; exact ⟨fun _ => .inr (sb_le j), fun _ => hq⟩
      · exact yl_has k j (by omega)
    · rw [sb_out hq]
      by_cases e : j = k
      · subst e
        constructor
        · exact fun h => absurd h hq
        · rintro (⟨p, hp, h1, h2⟩ | h)
          · have h3 : p.2 ≤ j := by
              by_cases hc : sb q j < j
              · rw [yl_put hq hc] at hp
                rcases List.mem_append.1 hp with hp | hp
                · have := yl_run j p hp; have := sb_le (q := q) j; omega
                · rw [List.mem_singleton] at hp; subst hp; exact Nat.le_refl _
              · rw [yl_same hq hc] at hp
                have := yl_run j p hp; have := sb_le (q := q) j; omega
            omega
          · omega
      · have hk := yl_has k j (by omega)
        by_cases h2 : sb q k < k
        · rw [yl_put hq h2, hk]
          constructor
          · rintro (⟨p, hp, h3, h4⟩ | h3)
            · exact .inl ⟨p, List.mem_append_left _ hp, h3, h4⟩
            · exact .inl ⟨_, List.mem_append_right _ List.mem_cons_self, h3, by show j < k; omega⟩
          · rintro (⟨p, hp, h3, h4⟩ | h3)
            · rcases List.mem_append.1 hp with hp | hp
              · exact .inl ⟨p, hp, h3, h4⟩
              · rw [List.mem_singleton] at hp; subst hp; exact .inr h3
            · omega
        · rw [yl_same hq h2, hk]
          constructor
          · rintro (h3 | h3)
            · exact .inl h3
            · have := sb_le (q := q) k; omega
          · rintro (h3 | h3)
            · exact .inl h3
            · omega
theorem yl_prefix (k : Nat) : ∀ d, yl q k <+: yl q (k + d)
  | 0 => List.prefix_refl _
  | d + 1 => by
    refine List.IsPrefix.trans (yl_prefix k d) ?_
    rw [show k + (d + 1) = (k + d) + 1 from rfl, yl]
    split
    · exact List.prefix_refl _
    · split
      · exact List.prefix_append _ _
      · exact List.prefix_refl _
/-- All runs: the last one may end with the columns. -/
theorem yl_end {m : Nat} : RU q m = if sb q m < m then yl q m ++ [(sb q m, m)] else yl q m := by
  symm
  by_cases h : sb q m < m
  · rw [if_pos h]
    refine RU_unique ?_ ?_ ?_
    · rw [List.pairwise_append]
      refine ⟨yl_rise m, by simp, fun x hx y hy => ?_⟩
      rw [List.mem_singleton] at hy
      subst hy
      have := yl_run m x hx
      show x.2 < sb q m
      omega
    · intro p hp
      rcases List.mem_append.1 hp with hp | hp
      · have := yl_run m p hp; have := sb_le (q := q) m; omega
      · rw [List.mem_singleton] at hp; subst hp; exact ⟨h, Nat.le_refl _⟩
    · intro k hk
      rw [yl_has m k hk]
      constructor
      · rintro (⟨p, hp, h3, h4⟩ | h3)
        · exact ⟨p, List.mem_append_left _ hp, h3, h4⟩
        · exact ⟨_, List.mem_append_right _ List.mem_cons_self, h3, hk⟩
      · rintro ⟨p, hp, h3, h4⟩
        rcases List.mem_append.1 hp with hp | hp
        · exact .inl ⟨p, hp, h3, h4⟩
        · rw [List.mem_singleton] at hp; subst hp; exact .inr h3
  · rw [if_neg h]
    refine RU_unique (yl_rise m) ?_ ?_
    · intro p hp
      have := yl_run m p hp; have := sb_le (q := q) m; omega
    · intro k hk
      rw [yl_has m k hk]
      constructor
      · rintro (h3 | h3)
        · exact h3
        · omega
      · exact .inl
theorem yl_all {m k : Nat} (h : k ≤ m) : yl q k <+: RU q m := by
  have h1 := yl_prefix (q := q) k (m - k)
  rw [Nat.add_sub_cancel' h] at h1
  refine List.IsPrefix.trans h1 ?_
  rw [yl_end]
  split
  · exact List.prefix_append _ _
  · exact List.prefix_refl _
/-- There are not many: of each two columns one at most begins a run. -/
theorem yl_len : ∀ k, 2 * (yl q k).length ≤ sb q k
  | 0 => Nat.le_refl _
  | k + 1 => by
    have h0 := yl_len k
    have h1 := sb_le (q := q) k
    by_cases hq : q k = true
    · rw [yl_in hq, sb_in hq]; exact h0
    · rw [sb_out hq]
      by_cases h2 : sb q k < k
      · rw [yl_put hq h2, List.length_append]; simp; omega
      · rw [yl_same hq h2]; omega
theorem RU_len {m : Nat} : 2 * (RU q m).length ≤ m + 1 := by
  have h0 := yl_len (q := q) m
  have h1 := sb_le (q := q) m
  rw [yl_end]
  split
  · rw [List.length_append]; simp; omega
  · omega
end
end Pk
end Go.Proofs.YtmdmehopefgndaaGreatDoor

/- A range over a function that keeps no cell of its own: its rounds may write whatever cells there are; the round's variables may lie in memory. -/
namespace Go.Proofs.YtmdmehopefgndaaGreatDoor
open Go.RowKit
set_option linter.unusedVariables false
/-- What is no cells and lies at or beyond B lies as it lay. -/
structure Far (B : Nat) (X Y : World) : Prop where
  size : X.heap.size ≤ Y.heap.size
  same : ∀ (k : Nat) (o : Obj), B ≤ k → X.heap[k]? = some o → o.isCells = false → Y.heap[k]? = some o
theorem Far.refl (B : Nat) (X : World) : Far B X X := ⟨Nat.le_refl _, fun _ _ _ h _ => h⟩
theorem Far.trans {B : Nat} {X Y Z : World} (h : Far B X Y) (k : Far B Y Z) : Far B X Z := ⟨Nat.le_trans h.size k.size, fun i o hi hx ho => k.same i o hi (h.same i o hi hx ho) ho⟩
theorem Far.mono {B B' : Nat} {X Y : World} (h : Far B X Y) (hB : B ≤ B') : Far B' X Y := ⟨h.size, fun k o hk hx ho => h.same k o (Nat.le_trans hB hk) hx ho⟩
theorem Far.putObj {B : Nat} (X : World) {l : Nat} (hl : l < B) (o : Obj) : Far B X (X.putObj l o) := ⟨by simp, fun k o' hk hx _ => (World.putObj_heap_other (by omega)).trans hx⟩
theorem Far.of_below {B : Nat} {X Y : World} (h : Below X.heap.size X Y) : Far B X Y := ⟨h.size, fun k o _ hx _ => (h.block k (Array.getElem?_eq_some_iff.1 hx).1).trans hx⟩
theorem Far.of_beyond {B : Nat} {X Y : World} (h : Beyond B X Y) : Far B X Y := ⟨h.size, fun k o hk hx _ => (h.same k hk (Array.getElem?_eq_some_iff.1 hx).1).trans hx⟩
theorem Far.of_others {B : Nat} {X Y : World} (h : KeepsOthers X Y) : Far B X Y := ⟨h.size, fun k o _ hx ho => h.same k o hx ho⟩
/-- An iterator, Rel being what its rounds owe to it. -/
def SeqG {α : Type} (c : Bool) (Rel : Nat → World → World → Prop) (P : Program) (gf : Nat) (lb : Array Value) (encs : α → Array Value) (xs : List α) (Ok : World → Prop) : Prop :=
  ∀ (n l : Nat) (J Jx : List α → World → Prop) (W : World),
    (∀ pre X, J pre X → Ok X) → (∀ pre X Y, J pre X → Ch c W.heap.size X Y → J pre Y) → (∀ pre X Y, Jx pre X → Ch c W.heap.size X Y → Jx pre Y) →
    (∀ m pre x X, J pre X → pre ++ [x] <+: xs → W.heap.size ≤ X.heap.size → YieldAt Fence.wide m P l (encs x) X fun e Y => Rel W.heap.size X Y ∧ ((e = .returned (.bool true) ∧ J (pre ++ [x]) Y) ∨ (e = .returned (.bool false) ∧ Jx (pre ++ [x]) Y))) →
    J [] W →
    CallsIn Fence.wide n P gf (#[.func (.yield l) #[] #[]] ++ lb) W fun e Y => (∃ v, e = .returned v) ∧ W.heap.size ≤ Y.heap.size ∧ (J xs Y ∨ ∃ pre, pre <+: xs ∧ Jx pre Y)
/-- How the body of a round may be left. -/
def rPostC {α : Type} (B : Nat) (I : List α → World → Prop) (Ix : Code → List α → World → Prop) (xs : List α) (W : World) : Exit → Act → World → Prop
  | .normal, _, W' => Far B W W' ∧ I xs W'
  | .ret, _, W' => Far B W W' ∧ Ix .ret xs W'
  | .exit id, _, W' => Far B W W' ∧ Ix (.exit id) xs W'
  | .goto t, _, W' => Far B W W' ∧ Ix (.goto t) xs W'
  | .panic _, _, _ => False
  | .outgrown, _, _ => False
/-- THE CALLER of an iterator that keeps no cell: a round may write whatever cells there are. W₁ is the world behind the laying of the round's variables. -/
theorem wpIn_rangeC {α : Type} {P : Program} {n : Nat} {g : Operand} {ps : Array Tmp} {assign body : Code} {Q : Exit → Act → World → Prop} {a : Act} {w : World}
    {gf : Nat} {lb : Array Value} (hg : a.eval g = .func (.func gf) #[] lb) (eg : ∀ args w, (callFunc gf args).run P w = .ok (.enter gf args) w)
    {encs : α → Array Value} {xs : List α} {Ok : World → Prop} (hseq : SeqG true Far P gf lb encs xs Ok) (hps : ∀ x, (encs x).size = ps.size)
    (I : List α → World → Prop) (Ix : Code → List α → World → Prop) (hOk : ∀ pre X, I pre X → Ok X)
    (hI : ∀ pre X Y, I pre X → Ch true w.heap.size X Y → I pre Y) (hIx : ∀ c pre X Y, Ix c pre X → Ch true w.heap.size X Y → Ix c pre Y) (h0 : I [] w) (a₁ : α → World → Act) (W₁ : α → World → World) (hW₁ : ∀ x W, Below W.heap.size W (W₁ x W))
    (hassign : ∀ (m l : Nat) (x : α) (W : World) (K : Act → World → Prop), K (a₁ x W) (W₁ x W) →
      assign.wpIn (Fence.wide.inRound l) m P (Exit.then K (fun _ _ _ => False)) { tmps := (ps.zip (encs x)).foldl (fun t (p, v) => t.setIfInBounds p v) a.tmps, defers := [] } W)
    (hbody : ∀ (m l : Nat) (pre : List α) (x : α) (X W : World), I pre W → pre ++ [x] <+: xs → w.heap.size ≤ X.heap.size → (∀ k, X.heap.size ≤ k → W.heap[k]? = (W₁ x X).heap[k]?) → W.heap.size = (W₁ x X).heap.size → body.wpIn (Fence.wide.inRound l) m P (rPostC w.heap.size I Ix (pre ++ [x]) W) (a₁ x X) W)
    (hdone : ∀ (D : Nat) (W : World), w.heap.size ≤ D → w.heap.size ≤ W.heap.size → I xs W → W.heap[D]? = some (.deferred (some [])) → Q .normal { a with defers := { target := .collected D, args := #[] } :: a.defers } W)
    (hstop : ∀ (D : Nat) (c : Code) (pre : List α) (W : World), w.heap.size ≤ D → w.heap.size ≤ W.heap.size → pre <+: xs → Ix c pre W → W.heap[D]? = some (.deferred (some [])) → c.wpIn Fence.wide n P Q { a with defers := { target := .collected D, args := #[] } :: a.defers } W) :
    (Code.rangeFunc g ps assign body).wpIn Fence.wide n P Q a w := by
  refine wpIn_rangeFunc ?_
  intro fn hfn
  obtain ⟨mk, hmk⟩ : ∃ mk : LoopState → Option Code → Loop, mk = fun st pe => { state := st, pending := pe, fn, tmps := a.tmps, params := ps, assign, body, defers := w.heap.size } := ⟨_, rfl⟩
  obtain ⟨V, hV⟩ : ∃ V, (w.alloc (.deferred (some []))).alloc (.loop (mk .ready none)) = V := ⟨_, rfl⟩
  have hsz : V.heap.size = w.heap.size + 2 := by rw [← hV]; simp
  have hbV : Ch true w.heap.size w V := by rw [← hV]; exact (Ch.alloc (Nat.le_refl _) _).trans (Ch.alloc (by simp) _)
  have hLV : V.heap[w.heap.size + 1]? = some (.loop (mk .ready none)) := by
    rw [← hV]; have := World.alloc_heap_new (w.alloc (.deferred (some []))) (.loop (mk .ready none)); rwa [World.size_alloc] at this
  have hDV : V.heap[w.heap.size]? = some (.deferred (some [])) := by
    rw [← hV]; exact (Below.heap_alloc _ _ _ (by simp)).trans (World.alloc_heap_new w _)
  refine ⟨w.heap.size + 1, [{ target := .collected w.heap.size, args := #[] }], V, { target := .fn (.func gf) lb, args := #[.func (.yield (w.heap.size + 1)) #[] #[]] }, V, gf,
    #[.func (.yield (w.heap.size + 1)) #[] #[]] ++ lb, V, ?_, ?_, fun _ _ => trivial, ?_, fun h => (by cases h), ?_⟩
  · rw [← hV, hmk]; exact run_enterLoop_outer _ _ _ _ _
  · simp only [resolve, hg]
    simp [go_sem]
  · simp [invoke, go_sem, eg]
  · refine (hseq (n - 1) (w.heap.size + 1)
      (fun pre W => I pre W ∧ W.heap[w.heap.size + 1]? = some (.loop (mk .ready none)) ∧ W.heap[w.heap.size]? = some (.deferred (some [])))
      (fun pre W => ∃ c, Ix c pre W ∧ W.heap[w.heap.size + 1]? = some (.loop (mk .done (some c))) ∧ W.heap[w.heap.size]? = some (.deferred (some [])))
      V (fun pre X h => hOk pre X h.1)
      (fun pre X Y h hb => ⟨hI pre X Y h.1 (hb.mono (by omega)), (hb.below.block _ (by omega)).trans h.2.1, (hb.below.block _ (by omega)).trans h.2.2⟩)
      (fun pre X Y h hb => by
        obtain ⟨c, hc, hl, hk⟩ := h
        exact ⟨c, hIx c pre X Y hc (hb.mono (by omega)), (hb.below.block _ (by omega)).trans hl, (hb.below.block _ (by omega)).trans hk⟩)
      ?_ ⟨hI [] w V h0 hbV, hLV, hDV⟩).mono ?_
    · rintro m pre x X ⟨hi, hl, hk⟩ hpre hXs
      have hy := run_yield (P := P) (args := encs x) hl (by rw [hmk]; exact hps x)
      rw [hmk] at hy
      have hlt : w.heap.size + 1 < X.heap.size := (Array.getElem?_eq_some_iff.1 hl).1
      have hb1 := hW₁ x X
      obtain ⟨X1, hX1⟩ : ∃ X1, W₁ x X = X1 := ⟨_, rfl⟩
      have hsz1 : X.heap.size ≤ X1.heap.size := by rw [← hX1]; exact hb1.size
      have hl1 : X1.heap[w.heap.size + 1]? = some (.loop (mk .ready none)) := by rw [← hX1]; exact (hb1.block _ hlt).trans hl
      have hk1 : X1.heap[w.heap.size]? = some (.deferred (some [])) := by rw [← hX1]; exact (hb1.block _ (by omega)).trans hk
      have hl1' : (W₁ x X).heap[w.heap.size + 1]? = some (.loop (mk .ready none)) := by rw [hX1]; exact hl1
      refine ⟨fn, _, assign, body, hy, roundIn_of_wpIn hfn (hassign _ _ x X _ ⟨_, run_beginRound hl1' (by rw [hmk]), ?_⟩)⟩
      rw [hX1]
      obtain ⟨X2, hX2⟩ : ∃ X2, X1.putObj (w.heap.size + 1) (.loop { mk .ready none with state := .busy }) = X2 := ⟨_, rfl⟩
      rw [hX2]
      have hl2 : X2.heap[w.heap.size + 1]? = some (.loop { mk .ready none with state := .busy }) := by rw [← hX2]; exact World.putObj_heap_same (by omega)
      have hk2 : X2.heap[w.heap.size]? = some (.deferred (some [])) := by rw [← hX2]; exact (World.putObj_heap_other (by omega)).trans hk1
      have hch1 : Ch true w.heap.size X X1 := by rw [← hX1]; exact ⟨hb1.mono (by omega), fun _ q o hq _ => (hb1.block q (Array.getElem?_eq_some_iff.1 hq).1).trans hq⟩
      have hb2 : Ch true w.heap.size X X2 := by rw [← hX2]; exact hch1.trans (Ch.put (by omega) hl1 rfl _)
      have hy2 : Far V.heap.size X X2 := by rw [← hX2]; refine Far.trans ?_ (Far.putObj X1 (by omega) _); rw [← hX1]; exact Far.of_below hb1
      have hs2 : X2.heap.size = X1.heap.size := by rw [← hX2]; simp
      refine wpIn_mono (hbody _ _ pre x X X2 (hI _ _ _ hi hb2) hpre (by omega) (fun k hk => by rw [hX1, ← hX2]; exact World.putObj_heap_other (by omega)) (by rw [hX1]; exact hs2)) ?_
      have fin : ∀ (jump : Option Code) (Y : World), Far w.heap.size X2 Y →
          (Instr.endRound (w.heap.size + 1) jump).run P Y = .ok (.bool jump.isNone) (Y.putObj (w.heap.size + 1) (.loop (mk (if jump.isNone then .ready else .done) jump))) ∧
          Ch true w.heap.size Y (Y.putObj (w.heap.size + 1) (.loop (mk (if jump.isNone then .ready else .done) jump))) ∧
          (Y.putObj (w.heap.size + 1) (.loop (mk (if jump.isNone then .ready else .done) jump))).heap[w.heap.size + 1]? = some (.loop (mk (if jump.isNone then .ready else .done) jump)) ∧
          (Y.putObj (w.heap.size + 1) (.loop (mk (if jump.isNone then .ready else .done) jump))).heap[w.heap.size]? = some (.deferred (some [])) ∧
          Far V.heap.size X (Y.putObj (w.heap.size + 1) (.loop (mk (if jump.isNone then .ready else .done) jump))) := fun jump Y hY => by
        have hl3 := hY.same _ _ (by omega) hl2 rfl
        have hr := run_endRound (P := P) jump hl3
        have hlt3 : w.heap.size + 1 < Y.heap.size := (Array.getElem?_eq_some_iff.1 hl3).1
        refine ⟨by rw [hr, hmk], Ch.put (by omega) hl3 rfl _, World.putObj_heap_same hlt3, (World.putObj_heap_other (by omega)).trans (hY.same _ _ (Nat.le_refl _) hk2 rfl), ?_⟩
        exact hy2.trans ((hY.mono (by omega)).trans (Far.putObj Y (by omega) _))
      rintro e a3 Y hp
      cases e with
      | normal =>
        obtain ⟨hY, hi3⟩ := hp
        obtain ⟨hr, hb3, hl4, hk4, hy4⟩ := fin none Y hY
        exact ⟨_, _, hr, hy4, .inl ⟨rfl, hI _ _ _ hi3 hb3, hl4, hk4⟩⟩
      | ret =>
        obtain ⟨hY, hi3⟩ := hp
        obtain ⟨hr, hb3, hl4, hk4, hy4⟩ := fin (some .ret) Y hY
        exact ⟨_, _, hr, hy4, .inr ⟨rfl, .ret, hIx _ _ _ _ hi3 hb3, hl4, hk4⟩⟩
      | exit id =>
        obtain ⟨hY, hi3⟩ := hp
        obtain ⟨hr, hb3, hl4, hk4, hy4⟩ := fin (some (.exit id)) Y hY
        exact ⟨_, _, hr, hy4, .inr ⟨rfl, .exit id, hIx _ _ _ _ hi3 hb3, hl4, hk4⟩⟩
      | goto t =>
        obtain ⟨hY, hi3⟩ := hp
        obtain ⟨hr, hb3, hl4, hk4, hy4⟩ := fin (some (.goto t)) Y hY
        exact ⟨_, _, hr, hy4, .inr ⟨rfl, .goto t, hIx _ _ _ _ hi3 hb3, hl4, hk4⟩⟩
      | panic ch => exact hp.elim
      | outgrown => exact hp.elim
    · rintro e Y ⟨⟨v, rfl⟩, hYs, (⟨hi, hl, hk⟩ | ⟨pre, hpre, c, hi, hl, hk⟩)⟩
      · exact ⟨none, _, by have := run_endLoop (P := P) hl (by rw [hmk]; simp); rw [hmk] at this; exact this, hdone _ _ (Nat.le_refl _) (by simp; omega) (hI _ _ _ hi (Ch.put (by omega) hl rfl _)) ((World.putObj_heap_other (by omega)).trans hk)⟩
      · exact ⟨some c, _, by have := run_endLoop (P := P) hl (by rw [hmk]; simp); rw [hmk] at this; exact this, hstop _ c pre _ (Nat.le_refl _) (by simp; omega) hpre (hIx _ _ _ _ hi (Ch.put (by omega) hl rfl _)) ((World.putObj_heap_other (by omega)).trans hk)⟩
end Go.Proofs.YtmdmehopefgndaaGreatDoor
