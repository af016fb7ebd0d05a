/- Whole numbers as float64: exact below 2^53: plain mathematics. -/
import Derived.Test.YtbbhefiibcbbfaaLists
import Derived.Laws.FloatArith
namespace Go.Proofs.Ytbbhefiibcbbfaa
set_option linter.unusedVariables false
set_option exponentiation.threshold 2000
set_option maxRecDepth 20000
namespace Fl
open Ieee
/-- The word of a whole number. -/
def fb (n : Int) : Nat := floatOfInt .f64 n
theorem fb_eq (n : Int) : fb n = double.nearest (decide (n < 0)) n.natAbs 0 := rfl
theorem cut_none (way : Toward) (neg : Bool) (n : Nat) (hw : way = .even ∨ way = .zero) : way.cut neg n 0 = n := by
  have hg : (1 : Nat) <<< min 0 (n.log2 + 2) = 1 := by rw [Nat.zero_min]; rfl
  unfold Toward.cut
  simp only [hg, Nat.div_one, Nat.mod_one]
  rcases hw with rfl | rfl <;> simp
theorem cut_exact (way : Toward) (neg : Bool) (q d : Nat) (hd : d ≤ (q * 2 ^ d).log2 + 2) (hw : way = .even ∨ way = .zero) : way.cut neg (q * 2 ^ d) d = q := by
  have hg : (1 : Nat) <<< min d ((q * 2 ^ d).log2 + 2) = 2 ^ d := by rw [Nat.min_eq_left hd, Nat.one_shiftLeft]
  have hp : 0 < 2 ^ d := Nat.two_pow_pos d
  unfold Toward.cut
  simp only [hg, Nat.mul_div_cancel _ hp, Nat.mul_mod_left]
  rcases hw with rfl | rfl
  · have h1 : ¬ 2 ^ d < 2 * 0 := by omega
    have h2 : ¬ 2 ^ d = 2 * 0 := by omega
    simp
  · simp
theorem log2_mul {m : Nat} (hm : m ≠ 0) (k : Nat) : (m * 2 ^ k).log2 = m.log2 + k := by
  induction k with
  | zero => simp
  | succ k ih =>
    rw [Nat.pow_succ, ← Nat.mul_assoc, Nat.mul_comm _ 2, Nat.log2_two_mul (Nat.mul_ne_zero hm (Nat.ne_of_gt (Nat.two_pow_pos k))), ih]
    omega
/-- The significand of a number of at most 53 digits. -/
def sg (m : Nat) : Nat := m * 2 ^ (52 - m.log2)
theorem sg_range {m : Nat} (hm : m ≠ 0) (hl : m.log2 ≤ 52) : 2 ^ 52 ≤ sg m ∧ sg m < 2 ^ 53 := by
  have h1 := (Nat.le_log2 hm).1 (Nat.le_refl m.log2)
  have h2 := (Nat.log2_lt hm).1 (Nat.lt_succ_self m.log2)
  have e1 : 2 ^ m.log2 * 2 ^ (52 - m.log2) = 2 ^ 52 := by rw [← Nat.pow_add]; congr 1; omega
  have e2 : 2 ^ (m.log2 + 1) * 2 ^ (52 - m.log2) = 2 ^ 53 := by rw [← Nat.pow_add]; congr 1; omega
  have hp : 0 < 2 ^ (52 - m.log2) := Nat.two_pow_pos _
  unfold sg
  rw [← e1, ← e2]
  exact ⟨Nat.mul_le_mul_right _ h1, Nat.mul_lt_mul_of_pos_right h2 hp⟩
def rung (m : Nat) : Nat := (m.log2 + 1022) * 2 ^ 52 + sg m
theorem nearest_int (neg : Bool) {m : Nat} (k : Nat) (hm : m ≠ 0) (hl : m.log2 ≤ 52) : double.nearest neg (m * 2 ^ k) (-(k : Int)) = double.word neg (rung m) := by
  have h0 : m * 2 ^ k ≠ 0 := Nat.mul_ne_zero hm (Nat.ne_of_gt (Nat.two_pow_pos k))
  have hlast : max (-(k : Int) + ((m * 2 ^ k).log2 : Int) - (double.fractionBits : Int)) double.leastPlace = (m.log2 : Int) - 52 := by
    have e1 : double.leastPlace = -1074 := by decide
    have e2 : (double.fractionBits : Int) = 52 := rfl
    rw [log2_mul hm k, e1, e2]
    omega
  have hb : double.binade = 2 ^ 52 := rfl
  have hi : double.infRung = 2047 * 2 ^ 52 := rfl
  have hlp : double.leastPlace = -1074 := by decide
  have hs := sg_range hm hl
  unfold Format.nearest
  rw [if_neg h0]
  simp only [hlast]
  have hk : Toward.even.cut neg ((m * 2 ^ k) <<< (-(k : Int) - ((m.log2 : Int) - 52)).toNat) ((m.log2 : Int) - 52 - -(k : Int)).toNat = sg m := by
    by_cases hc : k ≤ 52 - m.log2
    · have e1 : (-(k : Int) - ((m.log2 : Int) - 52)).toNat = 52 - m.log2 - k := by omega
      have e2 : ((m.log2 : Int) - 52 - -(k : Int)).toNat = 0 := by omega
      rw [e1, e2, cut_none _ _ _ (.inl rfl), Nat.shiftLeft_eq, Nat.mul_assoc, ← Nat.pow_add]
      unfold sg
      congr 2
      omega
    · have e1 : (-(k : Int) - ((m.log2 : Int) - 52)).toNat = 0 := by omega
      have e2 : ((m.log2 : Int) - 52 - -(k : Int)).toNat = k - (52 - m.log2) := by omega
      have e3 : m * 2 ^ k = sg m * 2 ^ (k - (52 - m.log2)) := by
        unfold sg
        rw [Nat.mul_assoc, ← Nat.pow_add]
        congr 2
        omega
      rw [e1, e2, Nat.shiftLeft_zero]
      have hlog := log2_mul hm k
      rw [e3] at hlog ⊢
      exact cut_exact _ _ _ _ (by omega) (.inl rfl)
  rw [hk, hb, hi, hlp]
  have e4 : ((m.log2 : Int) - 52 - -1074).toNat = m.log2 + 1022 := by omega
  rw [e4]
  congr 1
  unfold rung
  have : (m.log2 + 1022) * 2 ^ 52 ≤ 1074 * 2 ^ 52 := Nat.mul_le_mul_right _ (by omega)
  omega
theorem read_int (neg : Bool) {m : Nat} (hm : m ≠ 0) (hl : m.log2 ≤ 52) : double.read (double.word neg (rung m)) = .number neg (sg m) (-((52 - m.log2 : Nat) : Int)) := by
  have hs := sg_range hm hl
  have hb : double.binade = 2 ^ 52 := rfl
  have hi : double.infRung = 2047 * 2 ^ 52 := rfl
  have hw : double.signWeight = 2 ^ 63 := rfl
  have hlp : double.leastPlace = -1074 := by decide
  have hmul : (m.log2 + 1022) * 2 ^ 52 ≤ 1074 * 2 ^ 52 := Nat.mul_le_mul_right _ (by omega)
  have hr : rung m < 2 ^ 63 := by unfold rung; omega
  have e1 : double.word neg (rung m) / 2 ^ 63 % 2 = neg.toNat := by
    unfold Format.word
    rw [hw]
    cases neg
    · simp [Nat.div_eq_of_lt hr]
    · simp only [if_true]
      have : (2 ^ 63 + rung m) / 2 ^ 63 = 1 := by omega
      rw [this]; rfl
  have e2 : double.word neg (rung m) % 2 ^ 63 = rung m := by
    unfold Format.word
    rw [hw]
    cases neg
    · simp [Nat.mod_eq_of_lt hr]
    · simp only [if_true]
      omega
  have e3 : rung m % 2 ^ 52 = sg m - 2 ^ 52 := by unfold rung; omega
  have e4 : rung m / 2 ^ 52 = m.log2 + 1023 := by unfold rung; omega
  have q1 : ¬ rung m < 2 ^ 52 := by unfold rung; omega
  have q2 : rung m < 2047 * 2 ^ 52 := by unfold rung; omega
  have q3 : 2 ^ 52 + (sg m - 2 ^ 52) = sg m := by omega
  have q4 : (-1074 : Int) + ((m.log2 + 1023 - 1 : Nat) : Int) = -((52 - m.log2 : Nat) : Int) := by omega
  have q5 : (neg.toNat == 1) = neg := by cases neg <;> rfl
  unfold Format.read
  simp only [hw, hb, hi, hlp, e1, e2, e3, e4, if_neg q1, if_pos q2, q3, q4, q5]
/-- A datum that stands for a whole number (a zero of either sign). -/
def Vw (d : Datum) (n : Int) : Prop := ∃ (s : Bool) (m k : Nat), d = .number s m (-(k : Int)) ∧ (if s then -(m : Int) else (m : Int)) = n * ((2 ^ k : Nat) : Int)
/-- No negative zero. -/
def Vl (d : Datum) (n : Int) : Prop := Vw d n ∧ (n = 0 → d.neg = false)
theorem log2_small {m : Nat} (hm : m ≠ 0) (h : m < 2 ^ 53) : m.log2 ≤ 52 := Nat.lt_succ_iff.1 ((Nat.log2_lt hm).2 h)
theorem fb_word {n : Int} (h0 : n ≠ 0) (h : n.natAbs < 2 ^ 53) : fb n = double.word (decide (n < 0)) (rung n.natAbs) := by
  have hm : n.natAbs ≠ 0 := by omega
  have := nearest_int (decide (n < 0)) 0 hm (log2_small hm h)
  rw [Nat.pow_zero, Nat.mul_one] at this
  rw [fb_eq]
  exact this
theorem fb_zero : fb 0 = 0 := by decide
theorem vl_fb {n : Int} (h : n.natAbs < 2 ^ 53) : Vl (double.read (fb n)) n := by
  by_cases h0 : n = 0
  · subst h0
    rw [fb_zero]
    refine ⟨⟨false, 0, 1074, by decide, by simp⟩, fun _ => by decide⟩
  · have hm : n.natAbs ≠ 0 := by omega
    rw [fb_word h0 h, read_int _ hm (log2_small hm h)]
    refine ⟨⟨decide (n < 0), sg n.natAbs, 52 - n.natAbs.log2, rfl, ?_⟩, fun q => absurd q h0⟩
    unfold sg
    by_cases hn : n < 0
    · rw [decide_eq_true hn, if_pos rfl, Int.natCast_mul, ← Int.neg_mul]
      congr 1
      omega
    · rw [decide_eq_false hn, if_neg (by decide), Int.natCast_mul]
      congr 1
      omega
theorem two_pos (k : Nat) : (0 : Int) < ((2 ^ k : Nat) : Int) := by exact_mod_cast Nat.two_pow_pos k
theorem vl_write {d : Datum} {n : Int} (hd : Vl d n) (h : n.natAbs < 2 ^ 53) : double.write d = fb n := by
  obtain ⟨⟨s, m, k, rfl, hv⟩, hz⟩ := hd
  have hp := two_pos k
  by_cases h0 : n = 0
  · subst h0
    have hs := hz rfl
    simp only [Datum.neg] at hs
    subst hs
    rw [Int.zero_mul] at hv
    have hm : m = 0 := by simpa using hv
    subst hm
    rw [fb_zero]
    show double.nearest false 0 _ = 0
    unfold Format.nearest
    rw [if_pos rfl]
    rfl
  · have hm : n.natAbs ≠ 0 := by omega
    have hmm : m = n.natAbs * 2 ^ k ∧ s = decide (n < 0) := by
      have e : (n * ((2 ^ k : Nat) : Int)).natAbs = n.natAbs * 2 ^ k := by rw [Int.natAbs_mul, Int.natAbs_natCast]
      cases s
      · rw [if_neg (by decide)] at hv
        have hn : ¬ n < 0 := fun q => by
          have := Int.mul_neg_of_neg_of_pos q hp
          omega
        exact ⟨by rw [← e, ← hv]; simp, by rw [decide_eq_false hn]⟩
      · rw [if_pos rfl] at hv
        have hn : n < 0 := by
          rcases Int.lt_trichotomy n 0 with q | q | q
          · exact q
          · exact absurd q h0
          · have := Int.mul_pos q hp
            omega
        exact ⟨by rw [← e, ← hv]; simp, by rw [decide_eq_true hn]⟩
    obtain ⟨rfl, rfl⟩ := hmm
    show double.nearest _ _ _ = _
    rw [nearest_int _ k hm (log2_small hm h), fb_word h0 h]
theorem signed_up {s : Bool} {m k : Nat} {a : Int} (h : (if s then -(m : Int) else (m : Int)) = a * ((2 ^ k : Nat) : Int)) (K : Nat) (hK : k ≤ K) : signed s m (-(k : Int) - -(K : Int)).toNat = a * ((2 ^ K : Nat) : Int) := by
  have e1 : (-(k : Int) - -(K : Int)).toNat = K - k := by omega
  have e2 : ((2 ^ K : Nat) : Int) = ((2 ^ k : Nat) : Int) * ((2 ^ (K - k) : Nat) : Int) := by
    rw [← Int.natCast_mul, ← Nat.pow_add]; congr 2; omega
  unfold signed
  rw [e1, Nat.shiftLeft_eq, e2, ← Int.mul_assoc, ← h, Int.natCast_mul]
  cases s <;> simp [Int.neg_mul]
theorem base_min (i j : Nat) : min (-(i : Int)) (-(j : Int)) = -((max i j : Nat) : Int) := by omega
theorem vl_sum {x y : Datum} {a b : Int} (hx : Vl x a) (hy : Vw y b) : ∃ d, x.sum y = some d ∧ Vl d (a + b) := by
  obtain ⟨⟨s, m, i, rfl, hm⟩, hz⟩ := hx
  obtain ⟨t, n, j, rfl, hn⟩ := hy
  have h1 := signed_up hm (max i j) (by omega)
  have h2 := signed_up hn (max i j) (by omega)
  have hp := two_pos (max i j)
  have hpj := two_pos j
  have hpi := two_pos i
  have hd : (Datum.number s m (-(i : Int))).sum (Datum.number t n (-(j : Int))) = some (.number (if (a + b) * ((2 ^ max i j : Nat) : Int) = 0 then s && t else decide ((a + b) * ((2 ^ max i j : Nat) : Int) < 0)) ((a + b) * ((2 ^ max i j : Nat) : Int)).natAbs (-((max i j : Nat) : Int))) := by
    simp only [Datum.sum, base_min, h1, h2, ← Int.add_mul]
  refine ⟨_, hd, ⟨_, _, max i j, rfl, ?_⟩, ?_⟩
  · generalize (a + b) * ((2 ^ max i j : Nat) : Int) = T
    by_cases hT : T = 0
    · subst hT; simp
    · rw [if_neg hT]
      by_cases hl : T < 0
      · rw [decide_eq_true hl, if_pos rfl]; omega
      · rw [decide_eq_false hl, if_neg (by decide)]; omega
  · intro h0
    simp only [Datum.neg, h0, Int.zero_mul, if_true]
    cases s
    · rfl
    · cases t
      · rfl
      · exfalso
        rw [if_pos rfl] at hm hn
        have ha : ¬ a = 0 := fun q => by have := hz q; simp [Datum.neg] at this
        have ha2 : a < 0 := by
          rcases Int.lt_trichotomy a 0 with q | q | q
          · exact q
          · exact absurd q ha
          · have := Int.mul_pos q hpi; omega
        have hb : 0 < b := by omega
        have := Int.mul_pos hb hpj
        omega
theorem vw_opp {y : Datum} {b : Int} (hy : Vw y b) : Vw y.opposite (-b) := by
  obtain ⟨t, n, j, rfl, hn⟩ := hy
  refine ⟨!t, n, j, rfl, ?_⟩
  rw [Int.neg_mul, ← hn]
  cases t <;> simp
theorem vw_order {x y : Datum} {a b : Int} (hx : Vw x a) (hy : Vw y b) : x.order y = some (compare a b) := by
  obtain ⟨s, m, i, rfl, hm⟩ := hx
  obtain ⟨t, n, j, rfl, hn⟩ := hy
  have h1 := signed_up hm (max i j) (by omega)
  have h2 := signed_up hn (max i j) (by omega)
  have hp := two_pos (max i j)
  simp only [Datum.order, base_min, h1, h2]
  generalize ((2 ^ max i j : Nat) : Int) = c at hp
  congr 1
  show compareOfLessAndEq _ _ = compareOfLessAndEq _ _
  unfold compareOfLessAndEq
  rcases Int.lt_trichotomy a b with q | q | q
  · rw [if_pos (Int.mul_lt_mul_of_pos_right q hp), if_pos q]
  · subst q; rw [if_neg (Int.lt_irrefl _), if_neg (Int.lt_irrefl _), if_pos rfl, if_pos rfl]
  · have h3 := Int.mul_lt_mul_of_pos_right q hp
    rw [if_neg (by omega), if_neg (by omega), if_neg (by omega), if_neg (by omega)]
theorem vw_toInt {x : Datum} {a : Int} (hx : Vw x a) : x.toInt .zero = some a := by
  obtain ⟨s, m, k, rfl, hm⟩ := hx
  have hp := two_pos k
  have hmk : m = a.natAbs * 2 ^ k := by
    have e : (a * ((2 ^ k : Nat) : Int)).natAbs = a.natAbs * 2 ^ k := by rw [Int.natAbs_mul, Int.natAbs_natCast]
    rw [← e, ← hm]
    cases s <;> simp
  have e1 : (-(k : Int)).toNat = 0 := by omega
  have e2 : (- -(k : Int)).toNat = k := by omega
  have hcut : Toward.zero.cut s (m <<< (-(k : Int)).toNat) (- -(k : Int)).toNat = a.natAbs := by
    rw [e1, e2, Nat.shiftLeft_zero, hmk]
    by_cases h0 : a = 0
    · subst h0
      unfold Toward.cut
      simp
    · refine cut_exact _ _ _ _ ?_ (.inr rfl)
      have := log2_mul (show a.natAbs ≠ 0 by omega) k
      omega
  simp only [Datum.toInt, Datum.integral, hcut, signed, Nat.shiftLeft_zero]
  congr 1
  by_cases h0 : a = 0
  · subst h0; cases s <;> simp
  · cases s
    · rw [if_neg (by decide)] at hm ⊢
      have : ¬ a < 0 := fun q => by have := Int.mul_neg_of_neg_of_pos q hp; omega
      omega
    · rw [if_pos rfl] at hm ⊢
      have : ¬ 0 < a := fun q => by have := Int.mul_pos q hp; omega
      omega
section
variable {a b : Int} (ha : a.natAbs < 2 ^ 53) (hb : b.natAbs < 2 ^ 53)
include ha hb
theorem add_fb (hc : (a + b).natAbs < 2 ^ 53) : floatBits .add .f64 (fb a) (fb b) = some (fb (a + b)) := by
  obtain ⟨d, h1, h2⟩ := vl_sum (vl_fb ha) (vl_fb hb).1
  show ((double.read (fb a)).sum (double.read (fb b))).map double.write = _
  rw [h1, Option.map_some, vl_write h2 hc]
theorem sub_fb (hc : (a - b).natAbs < 2 ^ 53) : floatBits .sub .f64 (fb a) (fb b) = some (fb (a - b)) := by
  obtain ⟨d, h1, h2⟩ := vl_sum (vl_fb ha) (vw_opp (vl_fb hb).1)
  show ((double.read (fb a)).sum (double.read (fb b)).opposite).map double.write = _
  rw [← Int.sub_eq_add_neg] at h2
  rw [h1, Option.map_some, vl_write h2 hc]
theorem order_fb : FloatKind.f64.format.order (fb a) (fb b) = some (compare a b) := vw_order (vl_fb ha).1 (vl_fb hb).1
end
theorem toInt_fb {a : Int} (ha : a.natAbs < 2 ^ 53) : (FloatKind.f64.decode (fb a)).toInt .zero = some a := vw_toInt (vl_fb ha).1
theorem fb_one : fb 1 = 4607182418800017408 := by decide
theorem fb_neg : fb (-1) = 13830554455654793216 := by decide
end Fl
end Go.Proofs.Ytbbhefiibcbbfaa
