import Derived.Test.YthkmbnbkipomiaaGreatDoorZ32
import Derived.Test.YthkmbnbkipomiaaGreatDoorZ07
import Derived.Test.YthkmbnbkipomiaaGreatDoorZ30
import Derived.Test.YthkmbnbkipomiaaGreatDoorZ27
import Derived.Test.YthkmbnbkipomiaaGreatDoorZ01
import Derived.Laws.FloatArith
import Derived.Test.YthkmbnbkipomiaaGreatDoorZ26
/- Paragraph: its contract. -/
namespace Go.Proofs.YthkmbnbkipomiaaGreatDoor
open Go.RowKit
set_option linter.unusedVariables false
set_option maxHeartbeats 1000000
set_option maxRecDepth 100000
theorem bb3 (base : Int) : (Rn.BB base ∧ ¬ base < -1 ∧ ¬ 1 < base) ∨ (¬ Rn.BB base ∧ base < -1) ∨ (¬ Rn.BB base ∧ ¬ base < -1 ∧ 1 < base) := by
  unfold Rn.BB
  omega
/-- What Paragraph answers, in memory. -/
def RPA (w : World) (m : Int) (L : List Int) (E : Int) (e : Ending) (w' : World) : Prop := ∃ a1 c1, e = .returned (.tuple #[.int .i64 m, .slice a1 L.length c1, .int .i64 E]) ∧ Row .i64 w' a1 L.length c1 L ∧ KO w w'
theorem RPA.err {w w' : World} {E : Int} (hk : KO w w') : RPA w 0 [] E (.returned (.tuple #[.int .i64 0, .slice none 0 0, .int .i64 E])) w' := ⟨none, 0, rfl, row_nil _ _, hk⟩
theorem paragraph_any (ao : Option Addr) (n cap : Nat) (l : List Int) (base : Int) (w : World) (h : Row .i32 w ao n cap l) (hf : ∀ x ∈ l, (Lit.int .i32 x).wf = true) (hM : Marks w) (hn : n ≤ 2000 ∨ 4096 < n) (m : Int) (L : List Int) (E : Int) (hA : Rn.PA l base m L E) :
    Calls Tryz.prog 13 #[.slice ao n cap, .int .i64 base] w (RPA w m L E) := by
  have hl := h.len
  rcases bb3 base with ⟨hb, h1, h2⟩ | ⟨hb, h1⟩ | ⟨hb, h1, h2⟩
  · by_cases hbig : 4096 < n
    · obtain ⟨rfl, rfl, rfl⟩ : m = 0 ∧ L = [] ∧ E = 3 := by
        rcases hA with ⟨q, _⟩ | ⟨_, _, q⟩ | ⟨_, q, _⟩ | ⟨_, q, _⟩
        · exact absurd hb q
        · exact q
        · omega
        · omega
      have hbig2 : (4096 : Int) < (n : Int) := by omega
      clear h hf hA hl hb hM hn
      go_enter Tryz.func13, Tryz.ntmps13
      go_wp2
      go_ret3
      exact RPA.err (KO.refl _)
    · have hbig2 : ¬ (4096 : Int) < (n : Int) := by omega
      have hn2 : n ≤ 2000 := by omega
      have hE : (¬ Ex.Formed (Rn.cl l) ∧ m = 0 ∧ L = [] ∧ E = 50) ∨ (Ex.Formed (Rn.cl l) ∧ m = Rn.bl base l ∧ L = Rn.VS l (Rn.bl base l) ∧ E = 0) := by
        rcases hA with ⟨q, _⟩ | ⟨_, q, _⟩ | ⟨_, _, q⟩ | ⟨_, _, q⟩
        · exact absurd hb q
        · omega
        · exact .inl q
        · exact .inr q
      have HC := hide (classes_any ao n cap l w h hf (by omega))
      have h2b := Rn.bl_two hb l
      have hcl : (Rn.cl l).length = n := by rw [Rn.cl_len, hl]
      have HB := hide (fun W (h0 : Row .i64 W (some ⟨w.heap.size, 0, none⟩) n n (Rn.cl l)) => (show Calls Tryz.prog 28 #[.slice (some ⟨w.heap.size, 0, none⟩) n n, .int .i64 0, .int .i64 (n : Int)] W fun e w' => e = .returned (.tuple #[.int .i64 (Iso.bso 0 (Rn.cl l)), .int .i64 0]) ∧ W = w' from by
        have := base_ok (some ⟨w.heap.size, 0, none⟩) n n (Rn.cl l) 0 n W h0 (by omega) (Nat.zero_le _) (Nat.le_refl _)
        rw [List.take_of_length_le (by rw [hcl]; exact Nat.le_refl _), List.drop_zero] at this
        exact this))
      have hbl : (base = -1 ∧ Rn.bl base l = Iso.bso 0 (Rn.cl l)) ∨ (¬ base = -1 ∧ Rn.bl base l = base) := by
        unfold Rn.bl
        by_cases e : base = -1
        · exact .inl ⟨e, if_pos e⟩
        · exact .inr ⟨e, if_neg e⟩
      have HP := hide (fun W b (hk : KO w W) (h0 : Row .i64 W (some ⟨w.heap.size, 0, none⟩) n n (Rn.cl l)) (hb' : b = 0 ∨ b = 1) => And.intro (fun hF => placeLevels_any ao (some ⟨w.heap.size, 0, none⟩) n cap n l b W (h.below hk) h0 hf (hM.below hk) hn2 hb' hF) (fun hF => placeLevels_form ao (some ⟨w.heap.size, 0, none⟩) n cap n l b W h0 (by omega) hb' hF))
      have HVL := hide (show (Rn.VS l (Rn.bl base l)).length = n from by rw [Rn.VS_len, hl])
      clear h hf hM hA hb hl hcl
      generalize hbb : Rn.bl base l = bb at *
      have HHB : ∀ W (h0 : Row .i64 W (some ⟨w.heap.size, 0, none⟩) n n (Rn.cl l)) (hk : KO w W), Calls Tryz.prog 29 #[.slice ao n cap, .slice (some ⟨w.heap.size, 0, none⟩) n n, .int .i64 bb] W fun e w' => ∃ a1 c1, e = .returned (.tuple #[.slice a1 L.length c1, .int .i64 E]) ∧ Row .i64 w' a1 L.length c1 L ∧ KO W w' ∧ ((E = 0 ∧ m = bb) ∨ (¬ E = 0 ∧ m = 0 ∧ L = [])) := by
        intro W h0 hk
        rcases hE with ⟨hF, rfl, rfl, rfl⟩ | ⟨hF, rfl, rfl, rfl⟩
        · refine ((HP.out W bb hk h0 h2b).2 hF).mono ?_
          rintro e w' ⟨rfl, rfl⟩
          exact ⟨none, 0, rfl, row_nil _ _, KO.refl _, .inr ⟨by decide, rfl, rfl⟩⟩
        · refine ((HP.out W _ hk h0 h2b).1 hF).mono ?_
          rintro e w' ⟨a1, c1, rfl, hr, hk2⟩
          rw [HVL.out]
          exact ⟨a1, c1, rfl, hr, hk2, .inl ⟨rfl, rfl⟩⟩
      have HH := hide HHB
      clear hE HVL HHB HP hbb
      rcases hbl with ⟨rfl, hbl⟩ | ⟨hbl1, hbl⟩
      · rw [← hbl] at HB
        clear hbl
        go_enter Tryz.func13, Tryz.ntmps13
        go_wp2_with fail
        refine HC.out.mono ?_
        rintro e w1 ⟨rfl, hn1⟩
        have HB1 := hide (HB.out w1 hn1.row)
        have HH1 := hide (HH.out w1 hn1.row hn1.bel)
        have HK1 := hide hn1.bel
        clear hn1 HB HH HC
        go_wp2_with fail
        refine HB1.out.mono ?_
        rintro e w2 ⟨rfl, rfl⟩
        go_wp2_with fail
        refine HH1.out.mono ?_
        rintro e w3 ⟨a1, c1, rfl, hr, hk, hE⟩
        have HR := hide (And.intro hr (KO.on HK1.out hk))
        clear hr hk HH1 HB1 HK1
        rcases hE with ⟨rfl, rfl⟩ | ⟨hE, rfl, rfl⟩
        · go_wp2
          go_ret3
          exact ⟨_, _, rfl, HR.out.1, HR.out.2⟩
        · have hEb : (E != 0) = true := bne_iff_ne.2 hE
          go_wp2
          go_ret3
          exact RPA.err HR.out.2
      · subst hbl
        clear HB
        have hbq : (bb == -1) = false := beq_false_of_ne hbl1
        go_enter Tryz.func13, Tryz.ntmps13
        go_wp2_with fail
        refine HC.out.mono ?_
        rintro e w1 ⟨rfl, hn1⟩
        have HH1 := hide (HH.out w1 hn1.row hn1.bel)
        have HK1 := hide hn1.bel
        clear hn1 HH HC
        go_wp2_with fail
        refine HH1.out.mono ?_
        rintro e w3 ⟨a1, c1, rfl, hr, hk, hE⟩
        have HR := hide (And.intro hr (KO.on HK1.out hk))
        clear hr hk HH1 HK1
        rcases hE with ⟨rfl, rfl⟩ | ⟨hE, rfl, rfl⟩
        · go_wp2
          go_ret3
          exact ⟨_, _, rfl, HR.out.1, HR.out.2⟩
        · have hEb : (E != 0) = true := bne_iff_ne.2 hE
          go_wp2
          go_ret3
          exact RPA.err HR.out.2
  · obtain ⟨rfl, rfl, rfl⟩ : m = 0 ∧ L = [] ∧ E = 2 := by
      rcases hA with ⟨_, q⟩ | ⟨q, _⟩ | ⟨q, _⟩ | ⟨q, _⟩
      · exact q
      all_goals exact absurd q hb
    clear h hf hA hb hl hM hn
    go_enter Tryz.func13, Tryz.ntmps13
    go_wp2
    go_ret3
    exact RPA.err (KO.refl _)
  · obtain ⟨rfl, rfl, rfl⟩ : m = 0 ∧ L = [] ∧ E = 2 := by
      rcases hA with ⟨_, q⟩ | ⟨q, _⟩ | ⟨q, _⟩ | ⟨q, _⟩
      · exact q
      all_goals exact absurd q hb
    clear h hf hA hb hl hM hn
    go_enter Tryz.func13, Tryz.ntmps13
    go_wp2
    go_ret3
    exact RPA.err (KO.refl _)
end Go.Proofs.YthkmbnbkipomiaaGreatDoor

/- A paragraph as one line: the law's helper, by contract. -/
namespace Go.Proofs.YthkmbnbkipomiaaGreatDoor
open Go.RowKit
set_option linter.unusedVariables false
set_option maxHeartbeats 1600000
set_option maxRecDepth 100000
theorem tline_any (ao : Option Addr) (n cap : Nat) (l : List Int) (base : Int) (w : World) (h : Row .i32 w ao n cap l) (hf : ∀ x ∈ l, (Lit.int .i32 x).wf = true) (hM : Marks w) (hn : n ≤ 300) (m : Int) (X S : List Int) (E : Int) (hA : TA l base m X S E) :
    Calls Tryz.prog 5 #[.slice ao n cap, .int .i64 base] w fun e w' => ∃ a c, e = .returned (.tuple #[.slice a X.length c, .int .i64 m, .int .i64 E]) ∧ Row .i64 w' a X.length c X ∧ KO w w' := by
  by_cases hE : E = 0
  · subst hE
    have hl := h.len
    have hXn : X.length = n := by rw [(TA_show hA).1, hl]
    obtain ⟨L, hPA, ⟨_, hX, _⟩ | ⟨h0, _⟩⟩ := hA
    · have hF := top_facts hPA
      have hLn : L.length = n := by rw [hF.len, hl]
      have HP := hide (paragraph_any ao n cap l base w h hf hM (by omega) m L 0 hPA)
      have HC := hide (fun (W : World) (hk : KO w W) => classes_any ao n cap l W (h.below hk) hf (by omega))
      have HL := hide (fun (ac al : Option Addr) (cc cl : Nat) (W : World) (hc : Row .i64 W ac n cc (Rn.cl l)) (hl : Row .i64 W al n cl L) =>
        show Calls Tryz.prog 14 #[.slice ac n cc, .slice al n cl, .int .i64 m, .int .i64 0, .int .i64 (n : Int)] W _ from line_ok ac al n cc cl 0 n (Rn.cl l) L m W hc hl ⟨rfl, by have := hF.two; omega, by have := hF.two; omega, hF.fo⟩ (Nat.zero_le _) (Nat.le_refl _) (by omega))
      rw [TL_line hF hl, ← hX] at HL
      unfold RPA at HP
      rw [hLn] at HP
      have HXn := hide hXn
      clear hX hPA hF h hf hM hl hLn
      generalize Rn.cl l = C at *
      rw [HXn.out]
      clear hXn
      go_enter Tryz.func5, Tryz.ntmps5
      go_wp2_with fail
      refine HP.out.mono ?_
      rintro e w1 ⟨a1, c1, rfl, hr1, hk1⟩
      have HK1 := hide hk1
      have HR1 := hide hr1
      have HC1 := hide (HC.out w1 hk1)
      clear hr1 hk1 HP HC
      go_wp2_with fail
      refine HC1.out.mono ?_
      rintro e w2 ⟨rfl, hnr⟩
      have HK2 := hide (KO.on HK1.out hnr.bel)
      have HL2 := hide (HL.out _ _ _ _ w2 hnr.row (HR1.out.below hnr.bel))
      clear hnr HC1 HL
      go_wp2_with fail
      refine HL2.out.mono ?_
      rintro e w3 ⟨v, rfl, ho, hk3⟩
      obtain ⟨a3, c3, ev, hr3⟩ := row_any ho
      rw [HXn.out] at ev hr3
      subst ev
      have HK3 := hide (KO.on HK2.out hk3)
      have HR3 := hide hr3
      clear ho hk3 hr3 HL2
      go_wp2
      go_ret3
      exact ⟨a3, c3, rfl, HR3.out, HK3.out⟩
    · exact absurd rfl h0
  · obtain ⟨hm, hX, _⟩ := TA_no hA hE
    obtain ⟨L, hPA, _⟩ := hA
    have HP := hide (paragraph_any ao n cap l base w h hf hM (by omega) m L E hPA)
    have hEb : (E != 0) = true := bne_iff_ne.2 hE
    unfold RPA at HP
    subst hm hX
    clear hPA h hf hM
    generalize L.length = N at *
    go_enter Tryz.func5, Tryz.ntmps5
    go_wp2_with fail
    refine HP.out.mono ?_
    rintro e w1 ⟨a1, c1, rfl, hr1, hk1⟩
    have HK1 := hide hk1
    clear hr1 hk1 HP
    go_wp2
    go_ret3
    exact ⟨none, 0, rfl, row_nil _ _, HK1.out⟩
end Go.Proofs.YthkmbnbkipomiaaGreatDoor

/- Whole numbers as float64: exact below 2^53: plain mathematics. -/
namespace Go.Proofs.YthkmbnbkipomiaaGreatDoor
set_option linter.unusedVariables false
set_option exponentiation.threshold 2000
set_option maxRecDepth 20000
namespace Fl
open Ieee
/-- The word of a whole number. -/
def fb (n : Int) : Nat := floatOfInt .f64 n
theorem fb_eq (n : Int) : fb n = double.nearest (decide (n < 0)) n.natAbs 0 := rfl
theorem cut_none (way : Toward) (neg : Bool) (n : Nat) (hw : way = .even ∨ way = .zero) : way.cut neg n 0 = n := by
  have hg : (1 : Nat) <<< min 0 (n.log2 + 2) = 1 := by rw [Nat.zero_min]; rfl
  unfold Toward.cut
  simp only [hg, Nat.div_one, Nat.mod_one]
  rcases hw with rfl | rfl <;> simp
theorem cut_exact (way : Toward) (neg : Bool) (q d : Nat) (hd : d ≤ (q * 2 ^ d).log2 + 2) (hw : way = .even ∨ way = .zero) : way.cut neg (q * 2 ^ d) d = q := by
  have hg : (1 : Nat) <<< min d ((q * 2 ^ d).log2 + 2) = 2 ^ d := by rw [Nat.min_eq_left hd, Nat.one_shiftLeft]
  have hp : 0 < 2 ^ d := Nat.two_pow_pos d
  unfold Toward.cut
  simp only [hg, Nat.mul_div_cancel _ hp, Nat.mul_mod_left]
  rcases hw with rfl | rfl
  · have h1 : ¬ 2 ^ d < 2 * 0 := by omega
    have h2 : ¬ 2 ^ d = 2 * 0 := by omega
    simp
  · simp
theorem log2_mul {m : Nat} (hm : m ≠ 0) (k : Nat) : (m * 2 ^ k).log2 = m.log2 + k := by
  induction k with
  | zero => simp
  | succ k ih =>
    rw [Nat.pow_succ, ← Nat.mul_assoc, Nat.mul_comm _ 2, Nat.log2_two_mul (Nat.mul_ne_zero hm (Nat.ne_of_gt (Nat.two_pow_pos k))), ih]
    omega
/-- The significand of a number of at most 53 digits. -/
def sg (m : Nat) : Nat := m * 2 ^ (52 - m.log2)
theorem sg_range {m : Nat} (hm : m ≠ 0) (hl : m.log2 ≤ 52) : 2 ^ 52 ≤ sg m ∧ sg m < 2 ^ 53 := by
  have h1 := (Nat.le_log2 hm).1 (Nat.le_refl m.log2)
  have h2 := (Nat.log2_lt hm).1 (Nat.lt_succ_self m.log2)
  have e1 : 2 ^ m.log2 * 2 ^ (52 - m.log2) = 2 ^ 52 := by rw [← Nat.pow_add]; congr 1; omega
  have e2 : 2 ^ (m.log2 + 1) * 2 ^ (52 - m.log2) = 2 ^ 53 := by rw [← Nat.pow_add]; congr 1; omega
  have hp : 0 < 2 ^ (52 - m.log2) := Nat.two_pow_pos _
  unfold sg
  rw [← e1, ← e2]
  exact ⟨Nat.mul_le_mul_right _ h1, Nat.mul_lt_mul_of_pos_right h2 hp⟩
def rung (m : Nat) : Nat := (m.log2 + 1022) * 2 ^ 52 + sg m
theorem nearest_int (neg : Bool) {m : Nat} (k : Nat) (hm : m ≠ 0) (hl : m.log2 ≤ 52) : double.nearest neg (m * 2 ^ k) (-(k : Int)) = double.word neg (rung m) := by
  have h0 : m * 2 ^ k ≠ 0 := Nat.mul_ne_zero hm (Nat.ne_of_gt (Nat.two_pow_pos k))
  have hlast : max (-(k : Int) + ((m * 2 ^ k).log2 : Int) - (double.fractionBits : Int)) double.leastPlace = (m.log2 : Int) - 52 := by
    have e1 : double.leastPlace = -1074 := by decide
    have e2 : (double.fractionBits : Int) = 52 := rfl
    rw [log2_mul hm k, e1, e2]
    omega
  have hb : double.binade = 2 ^ 52 := rfl
  have hi : double.infRung = 2047 * 2 ^ 52 := rfl
  have hlp : double.leastPlace = -1074 := by decide
  have hs := sg_range hm hl
  unfold Format.nearest
  rw [if_neg h0]
  simp only [hlast]
  have hk : Toward.even.cut neg ((m * 2 ^ k) <<< (-(k : Int) - ((m.log2 : Int) - 52)).toNat) ((m.log2 : Int) - 52 - -(k : Int)).toNat = sg m := by
    by_cases hc : k ≤ 52 - m.log2
    · have e1 : (-(k : Int) - ((m.log2 : Int) - 52)).toNat = 52 - m.log2 - k := by omega
      have e2 : ((m.log2 : Int) - 52 - -(k : Int)).toNat = 0 := by omega
      rw [e1, e2, cut_none _ _ _ (.inl rfl), Nat.shiftLeft_eq, Nat.mul_assoc, ← Nat.pow_add]
      unfold sg
      congr 2
      omega
    · have e1 : (-(k : Int) - ((m.log2 : Int) - 52)).toNat = 0 := by omega
      have e2 : ((m.log2 : Int) - 52 - -(k : Int)).toNat = k - (52 - m.log2) := by omega
      have e3 : m * 2 ^ k = sg m * 2 ^ (k - (52 - m.log2)) := by
        unfold sg
        rw [Nat.mul_assoc, ← Nat.pow_add]
        congr 2
        omega
      rw [e1, e2, Nat.shiftLeft_zero]
      have hlog := log2_mul hm k
      rw [e3] at hlog ⊢
      exact cut_exact _ _ _ _ (by omega) (.inl rfl)
  rw [hk, hb, hi, hlp]
  have e4 : ((m.log2 : Int) - 52 - -1074).toNat = m.log2 + 1022 := by omega
  rw [e4]
  congr 1
  unfold rung
  have : (m.log2 + 1022) * 2 ^ 52 ≤ 1074 * 2 ^ 52 := Nat.mul_le_mul_right _ (by omega)
  omega
theorem read_int (neg : Bool) {m : Nat} (hm : m ≠ 0) (hl : m.log2 ≤ 52) : double.read (double.word neg (rung m)) = .number neg (sg m) (-((52 - m.log2 : Nat) : Int)) := by
  have hs := sg_range hm hl
  have hb : double.binade = 2 ^ 52 := rfl
  have hi : double.infRung = 2047 * 2 ^ 52 := rfl
  have hw : double.signWeight = 2 ^ 63 := rfl
  have hlp : double.leastPlace = -1074 := by decide
  have hmul : (m.log2 + 1022) * 2 ^ 52 ≤ 1074 * 2 ^ 52 := Nat.mul_le_mul_right _ (by omega)
  have hr : rung m < 2 ^ 63 := by unfold rung; omega
  have e1 : double.word neg (rung m) / 2 ^ 63 % 2 = neg.toNat := by
    unfold Format.word
    rw [hw]
    cases neg
    · simp [Nat.div_eq_of_lt hr]
    · simp only [if_true]
      have : (2 ^ 63 + rung m) / 2 ^ 63 = 1 := by omega
      rw [this]; rfl
  have e2 : double.word neg (rung m) % 2 ^ 63 = rung m := by
    unfold Format.word
    rw [hw]
    cases neg
    · simp [Nat.mod_eq_of_lt hr]
    · simp only [if_true]
      omega
  have e3 : rung m % 2 ^ 52 = sg m - 2 ^ 52 := by unfold rung; omega
  have e4 : rung m / 2 ^ 52 = m.log2 + 1023 := by unfold rung; omega
  have q1 : ¬ rung m < 2 ^ 52 := by unfold rung; omega
  have q2 : rung m < 2047 * 2 ^ 52 := by unfold rung; omega
  have q3 : 2 ^ 52 + (sg m - 2 ^ 52) = sg m := by omega
  have q4 : (-1074 : Int) + ((m.log2 + 1023 - 1 : Nat) : Int) = -((52 - m.log2 : Nat) : Int) := by omega
  have q5 : (neg.toNat == 1) = neg := by cases neg <;> rfl
  unfold Format.read
  simp only [hw, hb, hi, hlp, e1, e2, e3, e4, if_neg q1, if_pos q2, q3, q4, q5]
/-- A datum that stands for a whole number (a zero of either sign). -/
def Vw (d : Datum) (n : Int) : Prop := ∃ (s : Bool) (m k : Nat), d = .number s m (-(k : Int)) ∧ (if s then -(m : Int) else (m : Int)) = n * ((2 ^ k : Nat) : Int)
/-- No negative zero. -/
def Vl (d : Datum) (n : Int) : Prop := Vw d n ∧ (n = 0 → d.neg = false)
theorem log2_small {m : Nat} (hm : m ≠ 0) (h : m < 2 ^ 53) : m.log2 ≤ 52 := Nat.lt_succ_iff.1 ((Nat.log2_lt hm).2 h)
theorem fb_word {n : Int} (h0 : n ≠ 0) (h : n.natAbs < 2 ^ 53) : fb n = double.word (decide (n < 0)) (rung n.natAbs) := by
  have hm : n.natAbs ≠ 0 := by omega
  have := nearest_int (decide (n < 0)) 0 hm (log2_small hm h)
  rw [Nat.pow_zero, Nat.mul_one] at this
  rw [fb_eq]
  exact this
theorem fb_zero : fb 0 = 0 := by decide
theorem vl_fb {n : Int} (h : n.natAbs < 2 ^ 53) : Vl (double.read (fb n)) n := by
  by_cases h0 : n = 0
  · subst h0
    rw [fb_zero]
    refine ⟨⟨false, 0, 1074, by decide, by simp⟩, fun _ => by decide⟩
  · have hm : n.natAbs ≠ 0 := by omega
    rw [fb_word h0 h, read_int _ hm (log2_small hm h)]
    refine ⟨⟨decide (n < 0), sg n.natAbs, 52 - n.natAbs.log2, rfl, ?_⟩, fun q => absurd q h0⟩
    unfold sg
    by_cases hn : n < 0
    · rw [decide_eq_true hn, if_pos rfl, Int.natCast_mul, ← Int.neg_mul]
      congr 1
      omega
    · rw [decide_eq_false hn, if_neg (by decide), Int.natCast_mul]
      congr 1
      omega
theorem two_pos (k : Nat) : (0 : Int) < ((2 ^ k : Nat) : Int) := by exact_mod_cast Nat.two_pow_pos k
theorem vl_write {d : Datum} {n : Int} (hd : Vl d n) (h : n.natAbs < 2 ^ 53) : double.write d = fb n := by
  obtain ⟨⟨s, m, k, rfl, hv⟩, hz⟩ := hd
  have hp := two_pos k
  by_cases h0 : n = 0
  · subst h0
    have hs := hz rfl
    simp only [Datum.neg] at hs
    subst hs
    rw [Int.zero_mul] at hv
    have hm : m = 0 := by simpa using hv
    subst hm
    rw [fb_zero]
    show double.nearest false 0 _ = 0
    unfold Format.nearest
    rw [if_pos rfl]
    rfl
  · have hm : n.natAbs ≠ 0 := by omega
    have hmm : m = n.natAbs * 2 ^ k ∧ s = decide (n < 0) := by
      have e : (n * ((2 ^ k : Nat) : Int)).natAbs = n.natAbs * 2 ^ k := by rw [Int.natAbs_mul, Int.natAbs_natCast]
      cases s
      · rw [if_neg (by decide)] at hv
        have hn : ¬ n < 0 := fun q => by
          have := Int.mul_neg_of_neg_of_pos q hp
          omega
        exact ⟨by rw [← e, ← hv]; simp, by rw [decide_eq_false hn]⟩
      · rw [if_pos rfl] at hv
        have hn : n < 0 := by
          rcases Int.lt_trichotomy n 0 with q | q | q
          · exact q
          · exact absurd q h0
          · have := Int.mul_pos q hp
            omega
        exact ⟨by rw [← e, ← hv]; simp, by rw [decide_eq_true hn]⟩
    obtain ⟨rfl, rfl⟩ := hmm
    show double.nearest _ _ _ = _
    rw [nearest_int _ k hm (log2_small hm h), fb_word h0 h]
theorem signed_up {s : Bool} {m k : Nat} {a : Int} (h : (if s then -(m : Int) else (m : Int)) = a * ((2 ^ k : Nat) : Int)) (K : Nat) (hK : k ≤ K) : signed s m (-(k : Int) - -(K : Int)).toNat = a * ((2 ^ K : Nat) : Int) := by
  have e1 : (-(k : Int) - -(K : Int)).toNat = K - k := by omega
  have e2 : ((2 ^ K : Nat) : Int) = ((2 ^ k : Nat) : Int) * ((2 ^ (K - k) : Nat) : Int) := by
    rw [← Int.natCast_mul, ← Nat.pow_add]; congr 2; omega
  unfold signed
  rw [e1, Nat.shiftLeft_eq, e2, ← Int.mul_assoc, ← h, Int.natCast_mul]
  cases s <;> simp [Int.neg_mul]
theorem base_min (i j : Nat) : min (-(i : Int)) (-(j : Int)) = -((max i j : Nat) : Int) := by omega
theorem vl_sum {x y : Datum} {a b : Int} (hx : Vl x a) (hy : Vw y b) : ∃ d, x.sum y = some d ∧ Vl d (a + b) := by
  obtain ⟨⟨s, m, i, rfl, hm⟩, hz⟩ := hx
  obtain ⟨t, n, j, rfl, hn⟩ := hy
  have h1 := signed_up hm (max i j) (by omega)
  have h2 := signed_up hn (max i j) (by omega)
  have hp := two_pos (max i j)
  have hpj := two_pos j
  have hpi := two_pos i
  have hd : (Datum.number s m (-(i : Int))).sum (Datum.number t n (-(j : Int))) = some (.number (if (a + b) * ((2 ^ max i j : Nat) : Int) = 0 then s && t else decide ((a + b) * ((2 ^ max i j : Nat) : Int) < 0)) ((a + b) * ((2 ^ max i j : Nat) : Int)).natAbs (-((max i j : Nat) : Int))) := by
    simp only [Datum.sum, base_min, h1, h2, ← Int.add_mul]
  refine ⟨_, hd, ⟨_, _, max i j, rfl, ?_⟩, ?_⟩
  · generalize (a + b) * ((2 ^ max i j : Nat) : Int) = T
    by_cases hT : T = 0
    · subst hT; simp
    · rw [if_neg hT]
      by_cases hl : T < 0
      · rw [decide_eq_true hl, if_pos rfl]; omega
      · rw [decide_eq_false hl, if_neg (by decide)]; omega
  · intro h0
    simp only [Datum.neg, h0, Int.zero_mul, if_true]
    cases s
    · rfl
    · cases t
      · rfl
      · exfalso
        rw [if_pos rfl] at hm hn
        have ha : ¬ a = 0 := fun q => by have := hz q; simp [Datum.neg] at this
        have ha2 : a < 0 := by
          rcases Int.lt_trichotomy a 0 with q | q | q
          · exact q
          · exact absurd q ha
          · have := Int.mul_pos q hpi; omega
        have hb : 0 < b := by omega
        have := Int.mul_pos hb hpj
        omega
theorem vw_opp {y : Datum} {b : Int} (hy : Vw y b) : Vw y.opposite (-b) := by
  obtain ⟨t, n, j, rfl, hn⟩ := hy
  refine ⟨!t, n, j, rfl, ?_⟩
  rw [Int.neg_mul, ← hn]
  cases t <;> simp
theorem vw_order {x y : Datum} {a b : Int} (hx : Vw x a) (hy : Vw y b) : x.order y = some (compare a b) := by
  obtain ⟨s, m, i, rfl, hm⟩ := hx
  obtain ⟨t, n, j, rfl, hn⟩ := hy
  have h1 := signed_up hm (max i j) (by omega)
  have h2 := signed_up hn (max i j) (by omega)
  have hp := two_pos (max i j)
  simp only [Datum.order, base_min, h1, h2]
  generalize ((2 ^ max i j : Nat) : Int) = c at hp
  congr 1
  show compareOfLessAndEq _ _ = compareOfLessAndEq _ _
  unfold compareOfLessAndEq
  rcases Int.lt_trichotomy a b with q | q | q
  · rw [if_pos (Int.mul_lt_mul_of_pos_right q hp), if_pos q]
  · subst q; rw [if_neg (Int.lt_irrefl _), if_neg (Int.lt_irrefl _), if_pos rfl, if_pos rfl]
  · have h3 := Int.mul_lt_mul_of_pos_right q hp
    rw [if_neg (by omega), if_neg (by omega), if_neg (by omega), if_neg (by omega)]
theorem vw_toInt {x : Datum} {a : Int} (hx : Vw x a) : x.toInt .zero = some a := by
  obtain ⟨s, m, k, rfl, hm⟩ := hx
  have hp := two_pos k
  have hmk : m = a.natAbs * 2 ^ k := by
    have e : (a * ((2 ^ k : Nat) : Int)).natAbs = a.natAbs * 2 ^ k := by rw [Int.natAbs_mul, Int.natAbs_natCast]
    rw [← e, ← hm]
    cases s <;> simp
  have e1 : (-(k : Int)).toNat = 0 := by omega
  have e2 : (- -(k : Int)).toNat = k := by omega
  have hcut : Toward.zero.cut s (m <<< (-(k : Int)).toNat) (- -(k : Int)).toNat = a.natAbs := by
    rw [e1, e2, Nat.shiftLeft_zero, hmk]
    by_cases h0 : a = 0
    · subst h0
      unfold Toward.cut
      simp
    · refine cut_exact _ _ _ _ ?_ (.inr rfl)
      have := log2_mul (show a.natAbs ≠ 0 by omega) k
      omega
  simp only [Datum.toInt, Datum.integral, hcut, signed, Nat.shiftLeft_zero]
  congr 1
  by_cases h0 : a = 0
  · subst h0; cases s <;> simp
  · cases s
    · rw [if_neg (by decide)] at hm ⊢
      have : ¬ a < 0 := fun q => by have := Int.mul_neg_of_neg_of_pos q hp; omega
      omega
    · rw [if_pos rfl] at hm ⊢
      have : ¬ 0 < a := fun q => by have := Int.mul_pos q hp; omega
      omega
section
variable {a b : Int} (ha : a.natAbs < 2 ^ 53) (hb : b.natAbs < 2 ^ 53)
include ha hb
theorem add_fb (hc : (a + b).natAbs < 2 ^ 53) : floatBits .add .f64 (fb a) (fb b) = some (fb (a + b)) := by
  obtain ⟨d, h1, h2⟩ := vl_sum (vl_fb ha) (vl_fb hb).1
  show ((double.read (fb a)).sum (double.read (fb b))).map double.write = _
  rw [h1, Option.map_some, vl_write h2 hc]
theorem sub_fb (hc : (a - b).natAbs < 2 ^ 53) : floatBits .sub .f64 (fb a) (fb b) = some (fb (a - b)) := by
  obtain ⟨d, h1, h2⟩ := vl_sum (vl_fb ha) (vw_opp (vl_fb hb).1)
  show ((double.read (fb a)).sum (double.read (fb b)).opposite).map double.write = _
  rw [← Int.sub_eq_add_neg] at h2
  rw [h1, Option.map_some, vl_write h2 hc]
theorem order_fb : FloatKind.f64.format.order (fb a) (fb b) = some (compare a b) := vw_order (vl_fb ha).1 (vl_fb hb).1
end
theorem toInt_fb {a : Int} (ha : a.natAbs < 2 ^ 53) : (FloatKind.f64.decode (fb a)).toInt .zero = some a := vw_toInt (vl_fb ha).1
theorem fb_one : fb 1 = 4607182418800017408 := by decide
theorem fb_neg : fb (-1) = 13830554455654793216 := by decide
end Fl
end Go.Proofs.YthkmbnbkipomiaaGreatDoor

/- Rows of any values of one cell each: what base/Args and base/Copy say of integers. -/
namespace Go.Proofs.YthkmbnbkipomiaaGreatDoor
open Go.RowKit
set_option linter.unusedVariables false
section
variable {α : Type} {f : α → Value} {d : α}
/-- A slice that holds these values. -/
structure VR (f : α → Value) (d : α) (w : World) (ao : Option Addr) (n cap : Nat) (zs : List α) : Prop where
  len : zs.length = n
  le : n ≤ cap
  max : cap ≤ maxLen
  cells : 0 < n → ∃ b off, ao = some ⟨b, off, none⟩ ∧ b < w.heap.size ∧ ∀ i, i < zs.length → w.cell? ⟨b, off + i, none⟩ = some (f (zs.getD i d))
  nil : ao = none → cap = 0
theorem VR.below {w w' : World} {ao : Option Addr} {n cap : Nat} {zs : List α} (h : VR f d w ao n cap zs) (hb : Below w.heap.size w w') : VR f d w' ao n cap zs :=
  ⟨h.len, h.le, h.max, fun h0 => by
    obtain ⟨b, off, e1, e2, e3⟩ := h.cells h0
    exact ⟨b, off, e1, Nat.lt_of_lt_of_le e2 hb.size, fun i hi => (hb.cell (by exact e2)).trans (e3 i hi)⟩, h.nil⟩
theorem VR.of_owns {w : World} {base e n : Nat} {v : Value} {zs : List α} (h : w.ownsRow base e 1 v n (zs.map f)) : ∃ ao cap, v = .slice ao n cap ∧ VR f d w ao n cap zs := by
  have hl : zs.length = n := by have := h.1; simpa using this
  rcases h.2 with ⟨rfl, rfl⟩ | ⟨g, cap, cur, rfl, hb, hg, hn, hc, hs, ht⟩
  · exact ⟨none, 0, rfl, hl, Nat.le_refl _, Nat.zero_le _, fun h0 => by omega, fun _ => rfl⟩
  · refine ⟨_, cap, rfl, hl, hn, hc, fun h0 => ⟨g, 0, rfl, (Array.getElem?_eq_some_iff.1 hg).1, fun i hi => ?_⟩, fun h => by cases h⟩
    rw [Nat.zero_add, h.cellAt i (by omega)]
    rw [List.getElem?_map, List.getElem?_eq_getElem hi]
    simp [List.getD, List.getElem?_eq_getElem hi]
theorem VR.lit (w : World) (zs : List α) (e : TypeId) (hm : zs.length ≤ maxLen) : VR f d (w.alloc (.cells (zs.map f).toArray e)) (some ⟨w.heap.size, 0, none⟩) zs.length zs.length zs :=
  ⟨rfl, Nat.le_refl _, hm, fun _ => ⟨_, _, rfl, by simp, fun i hi => by
    rw [Nat.zero_add, World.cell?_alloc_mark]
    simp [List.getD, List.getElem?_eq_getElem hi]⟩, fun h => by cases h⟩
theorem VR.none_ (w : World) : VR f d w none 0 0 [] := ⟨rfl, Nat.le_refl _, Nat.zero_le _, fun h => by omega, fun _ => rfl⟩
theorem VR.news {w : World} {ad : Addr} {m c : Nat} {zs : List α} (hrow : VR f d w (some ad) m c zs) : ∀ j u, (zs.map f)[j]? = some u → w.cell? (ad.add j) = some u := by
  intro j u hj
  have hjl : j < zs.length := by
    have := (List.getElem?_eq_some_iff.1 hj).1
    simpa using this
  have hl := hrow.len
  obtain ⟨b, off, e1, _, hc⟩ := hrow.cells (by omega)
  simp only [Option.some.injEq] at e1
  subst e1
  have hadd : (⟨b, off, none⟩ : Addr).add j = ⟨b, off + j, none⟩ := by unfold Addr.add; split <;> simp_all
  rw [hadd, hc j hjl]
  rw [List.getElem?_map, List.getElem?_eq_getElem hjl] at hj
  simp only [Option.map_some, Option.some.injEq] at hj
  rw [← hj]
  simp [List.getD, List.getElem?_eq_getElem hjl]
/-- A value stored into a row of the call's own; what stands at a place of one. -/
theorem vown_set {w : World} {base e n cap g : Nat} {zs : List α} (h : w.ownsRow base e 1 (.slice (some ⟨g, 0, none⟩) n cap) n (zs.map f)) (j : Nat) (y : α) :
    (w.setCell ⟨g, j, none⟩ (f y)).ownsRow base e 1 (.slice (some ⟨g, 0, none⟩) n cap) n ((zs.set j y).map f) := by
  have := (h.stored j (f y)).1
  rw [List.map_set]
  exact this
theorem vown_cell {w : World} {base e n cap g : Nat} {zs : List α} (h : w.ownsRow base e 1 (.slice (some ⟨g, 0, none⟩) n cap) n (zs.map f)) (j : Nat) (hj : j < n) : w.cell? ⟨g, j, none⟩ = some (f (zs.getD j d)) := by
  have hl : zs.length = n := by have := h.1; simpa using this
  rw [h.cellAt j (by omega), List.getElem?_map, List.getElem?_eq_getElem (by omega)]
  simp [List.getD, List.getElem?_eq_getElem (show j < zs.length by omega)]
theorem one_all (hf : ∀ x, (f x).oneCell' = true) (zs : List α) : ∀ u ∈ zs.map f, u.oneCell' = true := by
  intro u hu
  obtain ⟨x, _, rfl⟩ := List.mem_map.1 hu
  exact hf x
/-- An append of such a row to one that the call owns. -/
theorem wp_append_vrow {P : Program} (w : World) {o : Oper} {a : Act} {K : Act → World → Prop} {Q : Exit → Act → World → Prop} (hf : ∀ x, (f x).oneCell' = true) (s x : Operand) (t : TypeId)
    (ho : o.op = .call { callee := .builtin .append, args := #[s, x], argTypes := #[t, t] })
    (base : Nat) (e : TypeId) (i : TypeInfo) (z : Value) (bytes : Nat) (ht : P.underlying t = some (.slice e)) (hi : P.info? e = some i) (hz : i.zero = some z)
    (hsize : i.size = 1) (hby : i.bytes = bytes) (hzs : z.cells.size = 1)
    (v : Value) (n : Nat) (xs : List Value) (hs : a.eval s = v) (hown : w.ownsRow base e 1 v n xs)
    (ad : Addr) (m c : Nat) (zs : List α) (hx : a.eval x = .slice (some ad) m c) (hrow : VR f d w (some ad) m c zs)
    (hbytes : (n + m) * bytes ≤ 140737488355328) (hb1 : 1 ≤ bytes) (hbase : base ≤ w.heap.size)
    (h : ∀ v' w', w'.ownsRow base e 1 v' (n + m) (xs ++ zs.map f) → Below base w w' → K (a.put o.dst v') w') : o.wp P a w K Q := by
  have h63 : n + m ≤ maxLen := by
    have : (n + m) * 1 ≤ (n + m) * bytes := Nat.mul_le_mul_left _ hb1
    unfold maxLen; omega
  have hbel : ∀ w', w.grownBy w' v.ownBlock → Below base w w' := fun w' hg => (Below.refl base w).grown hg hbase (fun j hj => (hown.lt j hj).1)
  exact wp_append_own w s x t ho base e i z 1 bytes ht hi hz hsize hby hzs (by decide) v n xs hs hown ad m c (zs.map f) hx (by simp [hrow.len]) hrow.news (one_all hf zs) h63 hbytes hbase (fun v' w' h1 h2 _ => h v' w' h1 (hbel w' h2))
theorem wpList_append_vrow {P : Program} (w : World) {ops : Array Oper} {rest : List Oper} {o : Oper} {a : Act} {Q : Exit → Act → World → Prop} (hf : ∀ x, (f x).oneCell' = true) (hw : Region.wanted o (yielded ops a.tmps) = true) (s x : Operand) (t : TypeId)
    (ho : o.op = .call { callee := .builtin .append, args := #[s, x], argTypes := #[t, t] })
    (base : Nat) (e : TypeId) (i : TypeInfo) (z : Value) (bytes : Nat) (ht : P.underlying t = some (.slice e)) (hi : P.info? e = some i) (hz : i.zero = some z)
    (hsize : i.size = 1) (hby : i.bytes = bytes) (hzs : z.cells.size = 1)
    (v : Value) (n : Nat) (xs : List Value) (hs : a.eval s = v) (hown : w.ownsRow base e 1 v n xs)
    (ad : Addr) (m c : Nat) (zs : List α) (hx : a.eval x = .slice (some ad) m c) (hrow : VR f d w (some ad) m c zs)
    (hbytes : (n + m) * bytes ≤ 140737488355328) (hb1 : 1 ≤ bytes) (hbase : base ≤ w.heap.size)
    (h : ∀ v' w', w'.ownsRow base e 1 v' (n + m) (xs ++ zs.map f) → Below base w w' → wpList P ops Q rest (a.put o.dst v') w') : wpList P ops Q (o :: rest) a w :=
  BigFrame.wpList_want hw fun K hK => wp_append_vrow w hf s x t ho base e i z bytes ht hi hz hsize hby hzs v n xs hs hown ad m c zs hx hrow hbytes hb1 hbase fun v' w' h1 h2 => hK _ _ (h v' w' h1 h2)
theorem step_append_vrow {P : Program} (w : World) {ops : Array Oper} {o : Oper} {a : Act} {K : Act → World → Prop} {Q : Exit → Act → World → Prop} {E : Prop} (hf : ∀ x, (f x).oneCell' = true) (hgd : o.guard = none) (s x : Operand) (t : TypeId)
    (ho : o.op = .call { callee := .builtin .append, args := #[s, x], argTypes := #[t, t] })
    (base : Nat) (e : TypeId) (i : TypeInfo) (z : Value) (bytes : Nat) (ht : P.underlying t = some (.slice e)) (hi : P.info? e = some i) (hz : i.zero = some z)
    (hsize : i.size = 1) (hby : i.bytes = bytes) (hzs : z.cells.size = 1)
    (v : Value) (n : Nat) (xs : List Value) (hs : a.eval s = v) (hown : w.ownsRow base e 1 v n xs)
    (ad : Addr) (m c : Nat) (zs : List α) (hx : a.eval x = .slice (some ad) m c) (hrow : VR f d w (some ad) m c zs)
    (hbytes : (n + m) * bytes ≤ 140737488355328) (hb1 : 1 ≤ bytes) (hbase : base ≤ w.heap.size)
    (h : ∀ v' w', w'.ownsRow base e 1 v' (n + m) (xs ++ zs.map f) → Below base w w' → K (a.put o.dst v') w') :
    if Region.wanted o (yielded ops a.tmps) = true then Oper.wp P o a w K Q else E := by
  have hw : Region.wanted o (yielded ops a.tmps) = true := by simp [Region.wanted, hgd]
  rw [if_pos hw]
  exact wp_append_vrow w hf s x t ho base e i z bytes ht hi hz hsize hby hzs v n xs hs hown ad m c zs hx hrow hbytes hb1 hbase h
end
/-- Complex numbers whose parts are whole. -/
def cv (fb : Int → Nat) (p : Int × Int) : Value := .complex .f64 (fb p.1) (fb p.2)
theorem cv_one (fb : Int → Nat) (p : Int × Int) : (cv fb p).oneCell' = true := rfl
end Go.Proofs.YthkmbnbkipomiaaGreatDoor
