/- Plain mathematics of balanced trees of numbers (a node bears the number of the block it lies in). No Go in sight. -/
import Derived.Test.YteiljaecaahonaaLists
import Derived.Test.YteiljaecaahonaaUc
import Derived.Test.YteiljaecaahonaaSp
namespace Go.Proofs.Yteiljaecaahonaa
inductive Tr where
  | nil : Tr
  | node (b : Nat) (l : Tr) (x : Int) (r : Tr) : Tr
namespace Tr
def list : Tr → List Int
  | nil => []
  | node _ l x r => l.list ++ x :: r.list
def high : Tr → Nat
  | nil => 0
  | node _ l _ r => Nat.max l.high r.high + 1
def size (t : Tr) : Nat := t.list.length
def brk (t : Tr) : Nat := seps t.list
def bal : Tr → Prop
  | nil => True
  | node _ l _ r => l.bal ∧ r.bal ∧ l.high ≤ r.high + 1 ∧ r.high ≤ l.high + 1
@[simp] theorem list_nil : nil.list = [] := rfl
@[simp] theorem list_node (b l x r) : (node b l x r).list = l.list ++ x :: r.list := rfl
@[simp] theorem size_nil : nil.size = 0 := rfl
@[simp] theorem size_node (b l x r) : (node b l x r).size = l.size + r.size + 1 := by simp [size]; omega
@[simp] theorem brk_nil : nil.brk = 0 := rfl
@[simp] theorem brk_node (b l x r) : (node b l x r).brk = l.brk + r.brk + sep x := by simp [brk]; omega
@[simp] theorem high_nil : nil.high = 0 := rfl
theorem high_node (b l x r) : (node b l x r).high = Nat.max l.high r.high + 1 := rfl
theorem brk_le (t : Tr) : t.brk ≤ t.size := seps_le _
theorem high_le (t : Tr) : t.high ≤ t.size := by
  induction t with
  | nil => simp
  | node b l x r ihl ihr =>
    rw [high_node, size_node]
    have h1 : Nat.max l.high r.high ≤ l.size + r.size := Nat.max_le.2 ⟨by omega, by omega⟩
    omega
theorem high_zero {t : Tr} : t.high = 0 ↔ t.size = 0 := by
  cases t with
  | nil => simp
  | node b l x r => rw [high_node, size_node]; omega
/-- A balanced tree is not deeper than it may be. -/
theorem pow_le {t : Tr} (h : t.bal) : 2 ^ (t.high / 2) ≤ t.size + 1 := by
  have key : ∀ n (t : Tr), t.high = n → t.bal → 2 ^ (n / 2) ≤ t.size + 1 := by
    intro n
    induction n using Nat.strongRecOn with
    | _ n ih =>
      intro t ht hb
      cases t with
      | nil => simp at ht; subst ht; simp
      | node b l x r =>
        rw [high_node] at ht
        obtain ⟨hl, hr, h1, h2⟩ := hb
        by_cases hn : n < 2
        · have : n / 2 = 0 := by omega
          rw [this]; simp
        · have a1 := ih l.high (by have := Nat.le_max_left l.high r.high; show l.high < n; have e : Nat.max l.high r.high = max l.high r.high := rfl; omega) l rfl hl
          have a2 := ih r.high (by have := Nat.le_max_right l.high r.high; show r.high < n; have e : Nat.max l.high r.high = max l.high r.high := rfl; omega) r rfl hr
          have e : Nat.max l.high r.high = max l.high r.high := rfl
          have b1 : 2 ^ ((n - 2) / 2) ≤ 2 ^ (l.high / 2) := Nat.pow_le_pow_right (by omega) (by omega)
          have b2 : 2 ^ ((n - 2) / 2) ≤ 2 ^ (r.high / 2) := Nat.pow_le_pow_right (by omega) (by omega)
          have e2 : n / 2 = (n - 2) / 2 + 1 := by omega
          rw [e2, Nat.pow_succ, size_node]
          omega
  exact key _ t rfl h
/-- A node with 'near' at the side q (false: ahead; true: behind), 'far' at the other. -/
def mk (q : Bool) (b : Nat) (near : Tr) (x : Int) (far : Tr) : Tr := if q then node b far x near else node b near x far
def glue (q : Bool) (near : List Int) (x : Int) (far : List Int) : List Int := if q then far ++ x :: near else near ++ x :: far
@[simp] theorem mk_list (q b near x far) : (mk q b near x far).list = glue q near.list x far.list := by cases q <;> rfl
@[simp] theorem mk_size (q b near x far) : (mk q b near x far).size = near.size + far.size + 1 := by cases q <;> simp [mk]; omega
@[simp] theorem mk_brk (q b near x far) : (mk q b near x far).brk = near.brk + far.brk + sep x := by cases q <;> simp [mk]; omega
theorem mk_high (q b near x far) : (mk q b near x far).high = Nat.max near.high far.high + 1 := by
  cases q
  · rfl
  · show Nat.max far.high near.high + 1 = _
    rw [show Nat.max far.high near.high = Nat.max near.high far.high from Nat.max_comm _ _]
theorem mk_bal (q b near x far) : (mk q b near x far).bal ↔ near.bal ∧ far.bal ∧ near.high ≤ far.high + 1 ∧ far.high ≤ near.high + 1 := by
  cases q
  · exact Iff.rfl
  · exact ⟨fun ⟨a, b, c, d⟩ => ⟨b, a, d, c⟩, fun ⟨a, b, c, d⟩ => ⟨b, a, d, c⟩⟩
theorem node_mk (q : Bool) (b l x r) : ∃ near far, node b l x r = mk q b near x far := by
  cases q
  · exact ⟨l, r, rfl⟩
  · exact ⟨r, l, rfl⟩
/-- The frames above a tree, the innermost first: block, number, the tree at the other side. -/
abbrev Fr : Type := Nat × Int × Tr
def up (q : Bool) (c : Tr) : List Fr → Tr
  | [] => c
  | f :: fs => up q (mk q f.1 c f.2.1 f.2.2) fs
def upl (q : Bool) (l : List Int) : List Fr → List Int
  | [] => l
  | f :: fs => upl q (glue q l f.2.1 f.2.2.list) fs
theorem up_list (q c fs) : (up q c fs).list = upl q c.list fs := by
  induction fs generalizing c with
  | nil => rfl
  | cons f fs ih => rw [up, ih, upl, mk_list]
/-- What is put at the near end of a tree's list stays there. -/
theorem upl_front (a l : List Int) (fs) : upl false (a ++ l) fs = a ++ upl false l fs := by
  induction fs generalizing l with
  | nil => rfl
  | cons f fs ih =>
    show upl false ((a ++ l) ++ f.2.1 :: f.2.2.list) fs = a ++ upl false (l ++ f.2.1 :: f.2.2.list) fs
    rw [List.append_assoc, ih]
theorem upl_back (a l : List Int) (fs) : upl true (l ++ a) fs = upl true l fs ++ a := by
  induction fs generalizing l with
  | nil => rfl
  | cons f fs ih =>
    show upl true (f.2.2.list ++ f.2.1 :: (l ++ a)) fs = upl true (f.2.2.list ++ f.2.1 :: l) fs ++ a
    rw [show f.2.2.list ++ f.2.1 :: (l ++ a) = (f.2.2.list ++ f.2.1 :: l) ++ a from by simp, ih]
theorem upl_glue (q : Bool) (low : List Int) (x : Int) (c : List Int) (fs) : upl q (glue q low x c) fs = glue q low x (upl q c fs) := by
  cases q
  · show upl false (low ++ x :: c) fs = low ++ x :: upl false c fs
    rw [show low ++ x :: c = (low ++ [x]) ++ c from by simp, upl_front]; simp
  · show upl true (c ++ x :: low) fs = upl true c fs ++ x :: low
    rw [upl_back]
theorem up_size (q c fs) : c.size ≤ (up q c fs).size := by
  induction fs generalizing c with
  | nil => exact Nat.le_refl _
  | cons f fs ih => rw [up]; exact Nat.le_trans (by simp; omega) (ih _)
theorem upl_len (q : Bool) (l : List Int) (fs) : (upl q l fs).length = l.length + ((up q nil fs).size) := by
  have : ∀ (c : Tr), (upl q c.list fs).length = (up q c fs).size := fun c => by rw [← up_list]; rfl
  induction fs generalizing l with
  | nil => simp [upl, up]
  | cons f fs ih =>
    have e : ∀ l : List Int, (glue q l f.2.1 f.2.2.list).length = l.length + f.2.2.list.length + 1 := by intro l; cases q <;> simp [glue] <;> omega
    have h1 := ih (glue q l f.2.1 f.2.2.list) (fun c => by rw [← up_list]; rfl)
    have h2 := ih (mk q f.1 nil f.2.1 f.2.2).list (fun c => by rw [← up_list]; rfl)
    rw [← up_list] at h2
    rw [upl, h1, up]
    have h3 : (up q (mk q f.1 nil f.2.1 f.2.2) fs).size = (up q (mk q f.1 nil f.2.1 f.2.2) fs).list.length := rfl
    rw [h3, h2, mk_list, e, e]; simp; omega
theorem up_bal {q c fs} (h : (up q c fs).bal) : c.bal := by
  induction fs generalizing c with
  | nil => exact h
  | cons f fs ih => exact ((mk_bal ..).1 (ih h)).1
theorem len_one {t : Tr} (h : t.size = 1) : ∃ b x, t = node b nil x nil := by
  cases t with
  | nil => simp at h
  | node b l x r =>
    simp at h
    have hl : l = nil := by cases l with | nil => rfl | node => simp at h
    have hr : r = nil := by cases r with | nil => rfl | node => simp at h
    exact ⟨b, x, by rw [hl, hr]⟩
end Tr
end Go.Proofs.Yteiljaecaahonaa
