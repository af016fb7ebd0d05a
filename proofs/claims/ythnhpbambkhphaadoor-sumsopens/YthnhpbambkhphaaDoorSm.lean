/- Plain mathematics of the sum of 32 bits: one bit shifted out, its linearity, bursts. No Go in sight. -/
import Derived.Test.YthnhpbambkhphaaDoorLists
namespace Go.Proofs.YthnhpbambkhphaaDoor
namespace Sums
def P : Nat := 3988292384
def M : Nat := 4294967295
/-- One bit shifted out. -/
def bit (s : Nat) : Nat := if s % 2 = 1 then (s / 2) ^^^ P else s / 2
def steps : Nat → Nat → Nat
  | 0, s => s
  | n + 1, s => steps n (bit s)
theorem xor_mod2 (a b : Nat) : (a ^^^ b) % 2 = (a % 2 + b % 2) % 2 := by
  have h := @Nat.xor_mod_two_pow a b 1
  simp only [Nat.pow_one] at h
  rw [h]
  rcases Nat.mod_two_eq_zero_or_one a with ha | ha <;> rcases Nat.mod_two_eq_zero_or_one b with hb | hb <;> rw [ha, hb] <;> rfl
theorem xor_comm' (a b : Nat) : a ^^^ b = b ^^^ a := Nat.xor_comm a b
theorem xor_cancel (a b : Nat) : a ^^^ (a ^^^ b) = b := by rw [← Nat.xor_assoc, Nat.xor_self, Nat.zero_xor]
theorem xor_eq_zero {a b : Nat} (h : a ^^^ b = 0) : a = b := by
  have := congrArg (a ^^^ ·) h
  simp only [xor_cancel, Nat.xor_zero] at this
  exact this.symm
theorem xor_inj {a b c : Nat} (h : a ^^^ b = a ^^^ c) : b = c := by
  have := congrArg (a ^^^ ·) h
  simpa only [xor_cancel] using this
theorem xor_swap (a b c d : Nat) : (a ^^^ b) ^^^ (c ^^^ d) = (a ^^^ c) ^^^ (b ^^^ d) := by
  rw [Nat.xor_assoc, Nat.xor_assoc, ← Nat.xor_assoc b c d, Nat.xor_comm b c, Nat.xor_assoc c b d]
theorem bit_xor (a b : Nat) : bit (a ^^^ b) = bit a ^^^ bit b := by
  unfold bit
  rw [xor_mod2, Nat.xor_div_two]
  rcases Nat.mod_two_eq_zero_or_one a with ha | ha <;> rcases Nat.mod_two_eq_zero_or_one b with hb | hb <;> rw [ha, hb]
  · simp
  · simp [Nat.xor_assoc]
  · simp only [Nat.reduceAdd, Nat.reduceMod, if_true, Nat.zero_ne_one, if_false]
    rw [Nat.xor_assoc, Nat.xor_comm (b / 2) P, ← Nat.xor_assoc]
  · simp only [Nat.reduceAdd, Nat.reduceMod, if_true, Nat.zero_ne_one, if_false]
    rw [xor_swap, Nat.xor_self, Nat.xor_zero]
theorem steps_xor (n : Nat) : ∀ a b, steps n (a ^^^ b) = steps n a ^^^ steps n b := by
  induction n with
  | zero => intro a b; rfl
  | succ n ih => intro a b; simp only [steps]; rw [bit_xor, ih]
theorem steps_add (n m : Nat) : ∀ s, steps (n + m) s = steps m (steps n s) := by
  induction n with
  | zero => intro s; simp [steps]
  | succ n ih => intro s; rw [Nat.succ_add]; simp only [steps]; exact ih _
theorem bit_even (a : Nat) : bit (2 * a) = a := by unfold bit; rw [if_neg (by omega)]; omega
theorem steps_shift (n : Nat) : ∀ a, steps n (2 ^ n * a) = a := by
  induction n with
  | zero => intro a; simp [steps]
  | succ n ih => intro a; simp only [steps]; rw [Nat.pow_succ, show 2 ^ n * 2 * a = 2 * (2 ^ n * a) from by rw [Nat.mul_comm (2 ^ n) 2, Nat.mul_assoc], bit_even, ih]
theorem steps_zero (n : Nat) : steps n 0 = 0 := by have := steps_shift n 0; simpa using this
/-- What lies apart is added by the exclusive or. -/
theorem add_xor (i a b : Nat) (h : b < 2 ^ i) : 2 ^ i * a + b = (2 ^ i * a) ^^^ b := by
  apply Nat.eq_of_testBit_eq
  intro j
  rw [Nat.testBit_two_pow_mul_add a h, Nat.testBit_xor, Nat.testBit_two_pow_mul]
  by_cases hj : j < i
  · rw [if_pos hj]
    simp [show ¬ j ≥ i from by omega]
  · rw [if_neg hj]
    have : b.testBit j = false := Nat.testBit_lt_two_pow (Nat.lt_of_lt_of_le h (Nat.pow_le_pow_right (by omega) (by omega)))
    simp [this, show j ≥ i from by omega]
theorem bit_lt {s : Nat} (h : s < 4294967296) : bit s < 4294967296 := by
  unfold bit
  split
  · exact Nat.xor_lt_two_pow (n := 32) (by omega) (by unfold P; omega)
  · omega
theorem steps_lt (n : Nat) : ∀ {s : Nat}, s < 4294967296 → steps n s < 4294967296 := by
  induction n with
  | zero => intro s h; exact h
  | succ n ih => intro s h; exact ih (bit_lt h)
theorem bit_ne {s : Nat} (h : s < 4294967296) (h0 : s ≠ 0) : bit s ≠ 0 := by
  unfold bit
  split
  · intro e
    have := xor_eq_zero e
    unfold P at this
    omega
  · omega
theorem steps_ne (n : Nat) : ∀ {s : Nat}, s < 4294967296 → s ≠ 0 → steps n s ≠ 0 := by
  induction n with
  | zero => intro s _ h; exact h
  | succ n ih => intro s h h0; exact ih (bit_lt h) (bit_ne h h0)
/-- A burst of up to 32 bits does not vanish. -/
theorem burst {n k v : Nat} (hk : k ≤ n) (hv : v < 4294967296) (h : steps n (2 ^ k * v) = 0) : v = 0 := by
  obtain ⟨m, rfl⟩ := Nat.exists_eq_add_of_le hk
  rw [steps_add, steps_shift] at h
  exact Classical.byContradiction fun h0 => steps_ne m hv h0 h
/-- By halves of a byte. -/
def tab : List Int := [0, 498536548, 997073096, 651767980, 1994146192, 1802195444, 1303535960, 1342533948, 3988292384, 4027552580, 3604390888, 3412177804, 2607071920, 2262029012, 2685067896, 3183342108]
def row (i : Nat) : Nat := (tab.getD i 0).toNat
theorem row_eq : ∀ i, i < 16 → steps 4 i = row i := by decide
theorem row_lt : ∀ i, i < 16 → row i < 4294967296 ∧ tab.getD i 0 = (row i : Int) := by decide
def half (s : Nat) : Nat := (s / 16) ^^^ row (s % 16)
theorem half_eq (s : Nat) : half s = steps 4 s := by
  have e : s = (2 ^ 4 * (s / 16)) ^^^ (s % 16) := by
    rw [← add_xor 4 (s / 16) (s % 16) (by omega)]; omega
  conv => rhs; rw [e]
  rw [steps_xor, steps_shift, row_eq _ (by omega)]
  rfl
theorem half_lt {s : Nat} (h : s < 4294967296) : half s < 4294967296 := by rw [half_eq]; exact steps_lt 4 h
theorem halves_eq (s : Nat) : half (half s) = steps 8 s := by rw [half_eq, half_eq, ← steps_add]
/-- A byte is taken in. -/
def take1 (s : Nat) (c : Int) : Nat := steps 8 (s ^^^ c.toNat)
def run (s : Nat) (xs : List Int) : Nat := xs.foldl take1 s
theorem run_nil (s : Nat) : run s [] = s := rfl
theorem run_cons (s : Nat) (c : Int) (cs : List Int) : run s (c :: cs) = run (take1 s c) cs := rfl
theorem run_append (s : Nat) (xs ys : List Int) : run s (xs ++ ys) = run (run s xs) ys := List.foldl_append
theorem run_snoc (s : Nat) (xs : List Int) (k : Nat) (h : k < xs.length) : run s (xs.take (k + 1)) = take1 (run s (xs.take k)) (xs.getD k 0) := by
  rw [take_snoc xs k h, run_append]; rfl
theorem byte_lt {c : Int} (h : 0 ≤ c ∧ c ≤ 255) : c.toNat < 256 := by omega
theorem take1_lt {s : Nat} {c : Int} (hs : s < 4294967296) (hc : 0 ≤ c ∧ c ≤ 255) : take1 s c < 4294967296 :=
  steps_lt 8 (Nat.xor_lt_two_pow (n := 32) (by omega) (by have := byte_lt hc; omega))
theorem run_lt {xs : List Int} (hb : Bytes xs) : ∀ {s : Nat}, s < 4294967296 → run s xs < 4294967296 := by
  induction xs with
  | nil => intro s h; exact h
  | cons c cs ih => intro s h; exact ih hb.tail (take1_lt h hb.head)
/-- The bytes as one number, the lowest first. -/
def le : List Int → Nat
  | [] => 0
  | c :: cs => 256 * le cs + c.toNat
theorem run_eq {xs : List Int} (hb : Bytes xs) : ∀ s, run s xs = steps (8 * xs.length) (s ^^^ le xs) := by
  induction xs with
  | nil => intro s; simp [run, le, steps]
  | cons c cs ih =>
    intro s
    rw [run_cons, ih hb.tail, List.length_cons, show 8 * (cs.length + 1) = 8 + 8 * cs.length from by omega, steps_add]
    congr 1
    simp only [le]
    rw [show 256 * le cs + c.toNat = (2 ^ 8 * le cs) ^^^ c.toNat from add_xor 8 _ _ (byte_lt hb.head)]
    rw [Nat.xor_comm (2 ^ 8 * le cs), ← Nat.xor_assoc, steps_xor 8 (s ^^^ c.toNat), steps_shift]
    rfl
theorem le_lt {xs : List Int} (hb : Bytes xs) : le xs < 2 ^ (8 * xs.length) := by
  induction xs with
  | nil => simp [le]
  | cons c cs ih =>
    have h1 := ih hb.tail
    have h2 := byte_lt hb.head
    rw [List.length_cons, show 8 * (cs.length + 1) = 8 * cs.length + 8 from by omega, Nat.pow_add]
    simp only [le]
    omega
theorem le_inj {xs : List Int} : ∀ {ys : List Int}, Bytes xs → Bytes ys → xs.length = ys.length → le xs = le ys → xs = ys := by
  induction xs with
  | nil => intro ys _ _ hl _; exact (List.length_eq_zero_iff.1 hl.symm).symm
  | cons c cs ih =>
    intro ys hb hb2 hl he
    cases ys with
    | nil => simp at hl
    | cons d ds =>
      simp only [le] at he
      have h1 := hb.head
      have h2 := hb2.head
      have e1 : le cs = le ds := by omega
      have e2 : c = d := by omega
      rw [e2, ih hb.tail hb2.tail (by simpa using hl) e1]
theorem le_append {xs ys : List Int} (hb : Bytes xs) : le (xs ++ ys) = 2 ^ (8 * xs.length) * le ys + le xs := by
  induction xs with
  | nil => simp [le]
  | cons c cs ih =>
    rw [List.cons_append]
    simp only [le]
    rw [ih hb.tail, List.length_cons, show 8 * (cs.length + 1) = 8 * cs.length + 8 from by omega, Nat.pow_add, Nat.mul_add]
    rw [show 256 * (2 ^ (8 * cs.length) * le ys) = 2 ^ (8 * cs.length) * 2 ^ 8 * le ys from by rw [Nat.mul_comm (2 ^ (8 * cs.length)) (2 ^ 8), Nat.mul_assoc]]
    omega
/-- A bit of the bytes is turned. -/
theorem le_flip {xs : List Int} (hb : Bytes xs) : ∀ (j : Nat), j < 8 * xs.length →
    le (xs.set (j / 8) (((xs.getD (j / 8) 0).toNat ^^^ 2 ^ (j % 8) : Nat) : Int)) = le xs ^^^ 2 ^ j ∧ Bytes (xs.set (j / 8) (((xs.getD (j / 8) 0).toNat ^^^ 2 ^ (j % 8) : Nat) : Int)) := by
  induction xs with
  | nil => intro j hj; simp at hj
  | cons c cs ih =>
    intro j hj
    have hc := byte_lt hb.head
    by_cases h8 : j < 8
    · have e0 : j / 8 = 0 := by omega
      have e1 : j % 8 = j := by omega
      have hp : 2 ^ j < 2 ^ 8 := Nat.pow_lt_pow_right (by omega) h8
      have hx : c.toNat ^^^ 2 ^ j < 2 ^ 8 := Nat.xor_lt_two_pow (by omega) hp
      rw [e0, e1]
      simp only [List.set_cons_zero, List.getD_cons_zero, le]
      refine ⟨?_, ?_⟩
      · rw [Int.toNat_natCast, show 256 * le cs + (c.toNat ^^^ 2 ^ j) = (2 ^ 8 * le cs) ^^^ (c.toNat ^^^ 2 ^ j) from add_xor 8 _ _ hx,
          show 256 * le cs + c.toNat = (2 ^ 8 * le cs) ^^^ c.toNat from add_xor 8 _ _ hc, Nat.xor_assoc]
      · intro x hxm
        rcases List.mem_cons.1 hxm with rfl | hm
        · omega
        · exact hb.tail x hm
    · obtain ⟨i, rfl⟩ : ∃ i, j = i + 8 := ⟨j - 8, by omega⟩
      have e0 : (i + 8) / 8 = i / 8 + 1 := by omega
      have e1 : (i + 8) % 8 = i % 8 := by omega
      obtain ⟨h1, h2⟩ := ih hb.tail i (by rw [List.length_cons] at hj; omega)
      rw [e0, e1]
      simp only [List.set_cons_succ, List.getD_cons_succ, le]
      refine ⟨?_, ?_⟩
      · rw [h1, show 256 * (le cs ^^^ 2 ^ i) + c.toNat = (2 ^ 8 * (le cs ^^^ 2 ^ i)) ^^^ c.toNat from add_xor 8 _ _ hc,
          show 256 * le cs + c.toNat = (2 ^ 8 * le cs) ^^^ c.toNat from add_xor 8 _ _ hc]
        have : 2 ^ 8 * (le cs ^^^ 2 ^ i) = (2 ^ 8 * le cs) ^^^ 2 ^ (i + 8) := by
          have := @Nat.shiftLeft_xor_distrib 8 (le cs) (2 ^ i)
          simp only [Nat.shiftLeft_eq] at this
          rw [Nat.mul_comm, this, Nat.mul_comm (le cs), Nat.pow_add]
        rw [this, Nat.xor_assoc, Nat.xor_comm (2 ^ (i + 8)), ← Nat.xor_assoc]
      · intro x hxm
        rcases List.mem_cons.1 hxm with rfl | hm
        · exact hb.head
        · exact h2 x hm
def crc (xs : List Int) : Nat := M ^^^ run M xs
def more (s : Nat) (xs : List Int) : Nat := M ^^^ run (M ^^^ s) xs
theorem M_lt : M < 4294967296 := by decide
theorem crc_more (xs : List Int) : crc xs = more 0 xs := by unfold crc more; rw [Nat.xor_zero]
theorem crc_lt {xs : List Int} (hb : Bytes xs) : crc xs < 4294967296 := Nat.xor_lt_two_pow (n := 32) M_lt (run_lt hb M_lt)
theorem more_lt {s : Nat} {xs : List Int} (hs : s < 4294967296) (hb : Bytes xs) : more s xs < 4294967296 := Nat.xor_lt_two_pow (n := 32) M_lt (run_lt hb (Nat.xor_lt_two_pow (n := 32) M_lt hs))
theorem more_append (xs ys : List Int) : more (crc xs) ys = crc (xs ++ ys) := by
  unfold more crc
  rw [xor_cancel, run_append]
/-- 'All bits turned' is what is left to the greatest number. -/
theorem not_eq {s : Nat} (h : s < 4294967296) : M ^^^ s = 4294967295 - s := by
  have h1 : 2 ^ 32 * 0 + s = s := by omega
  apply Nat.eq_of_testBit_eq
  intro j
  rw [Nat.testBit_xor]
  have := Nat.testBit_two_pow_sub_succ (x := s) (n := 32) h j
  rw [show (4294967295 - s) = 2 ^ 32 - (s + 1) from by omega, this, show M = 2 ^ 32 - (0 + 1) from rfl, Nat.testBit_two_pow_sub_succ (by omega)]
  by_cases hj : j < 32
  · simp [hj]
  · have : s.testBit j = false := Nat.testBit_lt_two_pow (Nat.lt_of_lt_of_le h (Nat.pow_le_pow_right (n := 2) (by omega) (show 32 ≤ j by omega)))
    simp [hj, this]
/-- Of three lists as long as one another. -/
def mix (a b c : List Int) (k : Nat) : Int := ((((a.getD k 0).toNat ^^^ (b.getD k 0).toNat) ^^^ (c.getD k 0).toNat : Nat) : Int)
theorem mix_bytes {a b c : List Int} (ha : Bytes a) (hb : Bytes b) (hc : Bytes c) (k : Nat) : 0 ≤ mix a b c k ∧ mix a b c k ≤ 255 := by
  have h1 := byte_lt (ha.getD k)
  have h2 := byte_lt (hb.getD k)
  have h3 := byte_lt (hc.getD k)
  have : ((a.getD k 0).toNat ^^^ (b.getD k 0).toNat) ^^^ (c.getD k 0).toNat < 2 ^ 8 := Nat.xor_lt_two_pow (Nat.xor_lt_two_pow (by omega) (by omega)) (by omega)
  unfold mix
  omega
theorem xor3 (a b c x y z : Nat) : (a ^^^ b ^^^ c) ^^^ (x ^^^ y ^^^ z) = (a ^^^ x) ^^^ (b ^^^ y) ^^^ (c ^^^ z) := by
  rw [xor_swap (a ^^^ b) c (x ^^^ y) z, xor_swap a b x y]
theorem run_mix {a b c : List Int} {n : Nat} (hb : ∀ k, k < n → mix a b c k = mix a b c k) (ha : n ≤ a.length) (hB : n ≤ b.length) (hC : n ≤ c.length) (s t u : Nat) :
    run (s ^^^ t ^^^ u) ((List.range n).map (mix a b c)) = run s (a.take n) ^^^ run t (b.take n) ^^^ run u (c.take n) := by
  induction n with
  | zero => rfl
  | succ n ih =>
    rw [List.range_succ, List.map_append, run_append, ih (fun _ _ => rfl) (by omega) (by omega) (by omega), run_snoc s a n (by omega), run_snoc t b n (by omega), run_snoc u c n (by omega)]
    simp only [List.map_cons, List.map_nil, run_cons, run_nil]
    unfold take1 mix
    rw [Int.toNat_natCast, xor3, steps_xor, steps_xor]
theorem crc_mix {a b c : List Int} {n : Nat} (ha : n ≤ a.length) (hB : n ≤ b.length) (hC : n ≤ c.length) :
    crc ((List.range n).map (mix a b c)) = crc (a.take n) ^^^ crc (b.take n) ^^^ crc (c.take n) := by
  have := run_mix (a := a) (b := b) (c := c) (n := n) (fun _ _ => rfl) ha hB hC M M M
  rw [show M ^^^ M ^^^ M = M from by rw [Nat.xor_self, Nat.zero_xor]] at this
  unfold crc
  rw [this]
  generalize run M (a.take n) = x
  generalize run M (b.take n) = y
  generalize run M (c.take n) = z
  rw [xor_swap M x M y, Nat.xor_self, Nat.zero_xor, ← Nat.xor_assoc, Nat.xor_comm M (x ^^^ y), Nat.xor_assoc]
/-- The sum as bytes, the lowest one first. -/
def four (v : Nat) : List Int := [((v % 256 : Nat) : Int), ((v / 256 % 256 : Nat) : Int), ((v / 65536 % 256 : Nat) : Int), ((v / 16777216 % 256 : Nat) : Int)]
theorem four_bytes (v : Nat) : Bytes (four v) := by
  intro x hx
  simp only [four, List.mem_cons, List.not_mem_nil, or_false] at hx
  rcases hx with rfl | rfl | rfl | rfl <;> omega
theorem four_le {v : Nat} (h : v < 4294967296) : le (four v) = v := by
  simp only [four, le, Int.toNat_natCast]
  omega
theorem four_len (v : Nat) : (four v).length = 4 := rfl
def sealed (xs : List Int) : List Int := xs ++ four (crc xs)
theorem sealed_len (xs : List Int) : (sealed xs).length = xs.length + 4 := by simp [sealed, four_len]
theorem sealed_bytes {xs : List Int} (hb : Bytes xs) : Bytes (sealed xs) := hb.append (four_bytes _)
/-- What is sealed, as a number. -/
theorem sealed_steps {xs : List Int} (hb : Bytes xs) : steps (8 * (xs.length + 4)) (M ^^^ le (sealed xs)) = steps 32 M := by
  have hl := le_lt hb
  rw [show 8 * (xs.length + 4) = 8 * xs.length + 32 from by omega, steps_add]
  congr 1
  unfold sealed
  rw [le_append hb, add_xor _ _ _ hl, ← Nat.xor_assoc, Nat.xor_comm M, Nat.xor_assoc, steps_xor, steps_shift, ← run_eq hb, four_le (crc_lt hb)]
  unfold crc
  rw [Nat.xor_assoc, Nat.xor_self, Nat.xor_zero]
/-- Turned within 32 bits running, what is sealed is sealed no more. -/
theorem no_burst {xs ys : List Int} {k v : Nat} (hb : Bytes xs) (hy : Bytes ys) (hl : xs.length = ys.length) (hv : v < 4294967296) (hk : k ≤ 8 * (xs.length + 4))
    (h : le (sealed ys) = le (sealed xs) ^^^ (2 ^ k * v)) : v = 0 := by
  have h1 := sealed_steps hb
  have h2 := sealed_steps hy
  rw [← hl, h, ← Nat.xor_assoc, steps_xor, h1] at h2
  refine burst hk hv (xor_inj (a := steps 32 M) ?_)
  rw [h2, Nat.xor_zero]
end Sums
end Go.Proofs.YthnhpbambkhphaaDoor
