import Derived.RowKit
import Derived.Test.YtmdmehopefgndaaGreatDoorRows
import Derived.Test.YtmdmehopefgndaaGreatDoorZ01
import Derived.WalkKit
import Derived.WalkSpells
import Derived.WalkLawsBesides
import Derived.Outline
import Derived.ScopeJumps
import Derived.WalkMore
import Derived.Deep.AppendLies
/- Plain mathematics of strict UTF-8: sizes and forms of scalar values. No Go in sight. -/
namespace Go.Proofs.YtmdmehopefgndaaGreatDoor
namespace Utf
def size (v : Int) : Int :=
  if v < 0 then 0 else if v < 128 then 1 else if v < 2048 then 2 else if 55296 ≤ v ∧ v ≤ 57343 then 0 else if v < 65536 then 3 else if v ≤ 1114111 then 4 else 0
def form (v : Int) : List Int :=
  if v < 128 then [v] else if v < 2048 then [192 + v / 64, 128 + v % 64] else if v < 65536 then [224 + v / 4096, 128 + v / 64 % 64, 128 + v % 64]
  else [240 + v / 262144, 128 + v / 4096 % 64, 128 + v / 64 % 64, 128 + v % 64]
/-- What a first byte holds. -/
def first (c : Int) : Int × Int :=
  if c < 128 then (c, 1) else if c < 192 then (0, 0) else if c < 224 then (c - 192, 2) else if c < 240 then (c - 224, 3) else if c < 248 then (c - 240, 4) else (0, 0)
theorem size_bounds (v : Int) : 0 ≤ size v ∧ size v ≤ 4 := by
  unfold size
  repeat' split
  all_goals omega
theorem size_eq (v s : Int) (h : (v < 0 ∧ s = 0) ∨ (0 ≤ v ∧ v < 128 ∧ s = 1) ∨ (128 ≤ v ∧ v < 2048 ∧ s = 2) ∨ (2048 ≤ v ∧ v < 55296 ∧ s = 3) ∨ (55296 ≤ v ∧ v ≤ 57343 ∧ s = 0) ∨ (57343 < v ∧ v < 65536 ∧ s = 3) ∨ (65536 ≤ v ∧ v ≤ 1114111 ∧ s = 4) ∨ (1114111 < v ∧ s = 0)) : size v = s := by
  unfold size; repeat' split
  all_goals omega
theorem size_cases (v : Int) : (v < 0 ∧ size v = 0) ∨ (0 ≤ v ∧ v < 128 ∧ size v = 1) ∨ (128 ≤ v ∧ v < 2048 ∧ size v = 2) ∨ (2048 ≤ v ∧ v < 55296 ∧ size v = 3) ∨ (55296 ≤ v ∧ v ≤ 57343 ∧ size v = 0) ∨ (57343 < v ∧ v < 65536 ∧ size v = 3) ∨ (65536 ≤ v ∧ v ≤ 1114111 ∧ size v = 4) ∨ (1114111 < v ∧ size v = 0) := by
  unfold size; repeat' split
  all_goals omega
theorem first_cases (c : Int) (h0 : 0 ≤ c) (h1 : c ≤ 255) : ((first c).1 = c ∧ (first c).2 = 1 ∧ c < 128) ∨ (first c).2 = 0 ∨ (2 ≤ (first c).2 ∧ (first c).2 ≤ 4 ∧ 0 ≤ (first c).1 ∧ (first c).1 < 32) := by
  unfold first; repeat' split
  all_goals simp
  all_goals omega
/-- The bytes behind the first one. -/
def conts (r : Int) : List Int → Option Int
  | [] => some r
  | c :: cs => if c < 128 ∨ 191 < c then none else conts (r * 64 + (c - 128)) cs
/-- The form at the front of bytes: its value and its size; 0, 0: there is none. -/
def read : List Int → Int × Int
  | [] => (0, 0)
  | c :: cs => if (first c).2 = 0 ∨ (cs.length : Int) + 1 < (first c).2 then (0, 0) else
    match conts (first c).1 (cs.take ((first c).2.toNat - 1)) with
    | none => (0, 0)
    | some v => if size v = (first c).2 then (v, (first c).2) else (0, 0)
def Bd (k : Nat) (v : Int) : Prop := 0 ≤ v ∧ v < 32 * 64 ^ k
theorem Bd_le {k : Nat} {v : Int} (h : Bd k v) (hk : k ≤ 3) : 0 ≤ v ∧ v ≤ 8388607 := by
  obtain ⟨h0, h1⟩ := h
  have : k = 0 ∨ k = 1 ∨ k = 2 ∨ k = 3 := by omega
  rcases this with rfl | rfl | rfl | rfl <;> simp at h1 <;> omega
theorem Bd_step {k : Nat} {v d : Int} (h : Bd k v) (h0 : 0 ≤ d) (h1 : d ≤ 63) : Bd (k + 1) (v * 64 + d) := by
  obtain ⟨a, b⟩ := h
  refine ⟨by omega, ?_⟩
  rw [Int.pow_succ]
  generalize (64 : Int) ^ k = X at b
  omega
theorem conts_step {r v : Int} {T : List Int} {k : Nat} (h : conts r T = conts v (T.drop k)) (hk : k < T.length) (h1 : ¬ (T.getD k 0 < 128 ∨ 191 < T.getD k 0)) :
    conts r T = conts (v * 64 + (T.getD k 0 - 128)) (T.drop (k + 1)) := by
  rw [h, List.drop_eq_getElem_cons hk]
  have e : T.getD k 0 = T[k] := by simp [List.getD, List.getElem?_eq_getElem hk]
  rw [e] at h1 ⊢
  simp only [conts, if_neg h1]
theorem conts_stop {r v : Int} {T : List Int} {k : Nat} (h : conts r T = conts v (T.drop k)) (hk : k < T.length) (h1 : T.getD k 0 < 128 ∨ 191 < T.getD k 0) : conts r T = none := by
  rw [h, List.drop_eq_getElem_cons hk]
  have e : T.getD k 0 = T[k] := by simp [List.getD, List.getElem?_eq_getElem hk]
  rw [e] at h1
  simp only [conts, if_pos h1]
theorem conts_end {r v : Int} {T : List Int} {k : Nat} (h : conts r T = conts v (T.drop k)) (hk : T.length ≤ k) : conts r T = some v := by
  rw [h, List.drop_of_length_le hk]; rfl
theorem read_short {c : Int} {cs : List Int} (h : (first c).2 = 0 ∨ (cs.length : Int) + 1 < (first c).2) : read (c :: cs) = (0, 0) := by simp only [read, if_pos h]
theorem read_none {c : Int} {cs : List Int} (h : conts (first c).1 (cs.take ((first c).2.toNat - 1)) = none) : read (c :: cs) = (0, 0) := by
  simp only [read, h]; split <;> rfl
theorem read_odd {c v : Int} {cs : List Int} (h : conts (first c).1 (cs.take ((first c).2.toNat - 1)) = some v) (hs : size v ≠ (first c).2) : read (c :: cs) = (0, 0) := by
  simp only [read, h, if_neg hs]; split <;> rfl
theorem read_some {c v : Int} {cs : List Int} (h0 : ¬ ((first c).2 = 0 ∨ (cs.length : Int) + 1 < (first c).2)) (h : conts (first c).1 (cs.take ((first c).2.toNat - 1)) = some v) (hs : size v = (first c).2) : read (c :: cs) = (v, (first c).2) := by
  simp only [read, h, if_pos hs, if_neg h0]
theorem getD_take {T : List Int} {n k : Nat} (h : k < n) : (T.take n).getD k 0 = T.getD k 0 := by
  simp [List.getD, h]
theorem conts_nonneg (T : List Int) : ∀ r v, 0 ≤ r → conts r T = some v → 0 ≤ v := by
  induction T with
  | nil => intro r v hr h; simp [conts] at h; omega
  | cons c cs ih =>
    intro r v hr h
    simp only [conts] at h
    split at h
    · simp at h
    · exact ih _ _ (by omega) h
theorem read_bounds (xs : List Int) : 0 ≤ (read xs).2 ∧ (read xs).2 ≤ 4 ∧ (read xs).2 ≤ xs.length ∧ size (read xs).1 = (if (read xs).2 = 0 then 1 else (read xs).2) := by
  cases xs with
  | nil => simp [read, size]
  | cons c cs =>
    have z : 0 ≤ ((0, 0) : Int × Int).2 ∧ ((0, 0) : Int × Int).2 ≤ 4 ∧ ((0, 0) : Int × Int).2 ≤ ((c :: cs).length : Int) ∧ size ((0, 0) : Int × Int).1 = (if ((0, 0) : Int × Int).2 = 0 then 1 else ((0, 0) : Int × Int).2) := by
      simp [size]; omega
    by_cases h0 : (first c).2 = 0 ∨ (cs.length : Int) + 1 < (first c).2
    · rw [read_short h0]; exact z
    cases hc : conts (first c).1 (cs.take ((first c).2.toNat - 1)) with
    | none => rw [read_none hc]; exact z
    | some v =>
      by_cases hs : size v = (first c).2
      · rw [read_some h0 hc hs]
        have := size_bounds v
        simp only [List.length_cons]
        refine ⟨by omega, by omega, by omega, ?_⟩
        rw [if_neg (by omega), hs]
      · rw [read_odd hc hs]; exact z
/-- The scalar values at the front of bytes, and where they end. -/
def decN : Nat → List Int → List Int × Nat
  | 0, _ => ([], 0)
  | n + 1, xs => if (read xs).2 = 0 then ([], 0) else ((read xs).1 :: (decN n (xs.drop (read xs).2.toNat)).1, (read xs).2.toNat + (decN n (xs.drop (read xs).2.toNat)).2)
theorem decN_fuel : ∀ (n m : Nat) (xs : List Int), xs.length ≤ n → xs.length ≤ m → decN n xs = decN m xs := by
  have z : ∀ m, decN m [] = ([], 0) := by intro m; cases m <;> simp [decN, read]
  intro n
  induction n with
  | zero => intro m xs h _; obtain rfl : xs = [] := List.length_eq_zero_iff.1 (by omega); rw [z, z]
  | succ n ih =>
    intro m xs h h'
    cases m with
    | zero => obtain rfl : xs = [] := List.length_eq_zero_iff.1 (by omega); rw [z, z]
    | succ m =>
      have := read_bounds xs
      simp only [decN]
      split
      · rfl
      · rw [ih m (xs.drop (read xs).2.toNat) (by simp; omega) (by simp; omega)]
def dec (xs : List Int) : List Int × Nat := decN xs.length xs
theorem dec_nil : dec [] = ([], 0) := rfl
theorem dec_stop {xs : List Int} (h : (read xs).2 = 0) : dec xs = ([], 0) := by
  unfold dec
  cases xs with
  | nil => rfl
  | cons c cs => simp only [List.length_cons, decN, if_pos h]
theorem dec_step {xs : List Int} (h : (read xs).2 ≠ 0) : dec xs = ((read xs).1 :: (dec (xs.drop (read xs).2.toNat)).1, (read xs).2.toNat + (dec (xs.drop (read xs).2.toNat)).2) := by
  have hb := read_bounds xs
  unfold dec
  cases xs with
  | nil => simp [read] at h
  | cons c cs =>
    simp only [List.length_cons, decN, if_neg h]
    simp only [List.length_cons] at hb
    rw [decN_fuel cs.length ((c :: cs).drop (read (c :: cs)).2.toNat).length _ (by simp; omega) (Nat.le_refl _)]
theorem dec_le : ∀ (n : Nat) (xs : List Int), xs.length ≤ n → (dec xs).2 ≤ xs.length ∧ (dec xs).1.length ≤ (dec xs).2 := by
  intro n
  induction n with
  | zero => intro xs h; obtain rfl : xs = [] := List.length_eq_zero_iff.1 (by omega); simp [dec_nil]
  | succ n ih =>
    intro xs h
    have hb := read_bounds xs
    by_cases h0 : (read xs).2 = 0
    · rw [dec_stop h0]; simp
    · rw [dec_step h0]
      have := ih (xs.drop (read xs).2.toNat) (by simp; omega)
      simp at this ⊢
      omega
/-- What the loop of 'measure' knows: the first e bytes are k forms. -/
def Went (xs : List Int) (k e : Nat) : Prop := e ≤ xs.length ∧ k ≤ e ∧ (dec xs).1.length = k + (dec (xs.drop e)).1.length ∧ (dec xs).2 = e + (dec (xs.drop e)).2
theorem Went.start (xs : List Int) : Went xs 0 0 := ⟨Nat.zero_le _, Nat.le_refl _, by simp, by simp⟩
theorem Went.step {xs : List Int} {k e : Nat} (h : Went xs k e) (h0 : (read (xs.drop e)).2 ≠ 0) : Went xs (k + 1) (e + (read (xs.drop e)).2.toNat) := by
  obtain ⟨h1, h2, h3, h4⟩ := h
  have hb := read_bounds (xs.drop e)
  rw [dec_step h0] at h3 h4
  rw [List.length_drop] at hb
  simp only [List.drop_drop, List.length_cons] at h3 h4
  exact ⟨by omega, by omega, by omega, by omega⟩
theorem Went.stop {xs : List Int} {k e : Nat} (h : Went xs k e) (h0 : (read (xs.drop e)).2 = 0) : (dec xs).1.length = k ∧ (dec xs).2 = e := by
  obtain ⟨h1, h2, h3, h4⟩ := h
  rw [dec_stop h0] at h3 h4
  simp at h3 h4
  omega
/-- The bytes of scalar values. -/
def enc (l : List Int) : List Int := l.flatMap form
theorem enc_nil : enc [] = [] := rfl
theorem enc_append (a b : List Int) : enc (a ++ b) = enc a ++ enc b := by simp [enc]
theorem take_snoc (l : List Int) (k : Nat) (h : k < l.length) : l.take (k + 1) = l.take k ++ [l.getD k 0] := by
  rw [List.take_succ_eq_append_getElem h]; simp [List.getD, List.getElem?_eq_getElem h]
theorem enc_snoc (l : List Int) (k : Nat) (h : k < l.length) : enc (l.take (k + 1)) = enc (l.take k) ++ form (l.getD k 0) := by
  rw [take_snoc l k h, enc_append]; simp [enc]
theorem form_length {v : Int} (h : size v ≠ 0) : ((form v).length : Int) = size v := by
  have := size_cases v
  unfold form
  repeat' split
  all_goals simp
  all_goals omega
theorem form_le (v : Int) : 1 ≤ (form v).length ∧ (form v).length ≤ 4 := by
  unfold form
  repeat' split
  all_goals simp
theorem enc_le (l : List Int) : l.length ≤ (enc l).length ∧ (enc l).length ≤ 4 * l.length := by
  induction l with
  | nil => simp [enc]
  | cons a l ih =>
    have := form_le a
    rw [show enc (a :: l) = form a ++ enc l from rfl]
    simp only [List.length_append, List.length_cons]
    omega
theorem form_bytes {v : Int} (h : size v ≠ 0) : ∀ x ∈ form v, 0 ≤ x ∧ x ≤ 255 := by
  have := size_cases v
  unfold form
  repeat' split
  all_goals simp
  all_goals omega
theorem enc_bytes {l : List Int} (h : ∀ x ∈ l, size x ≠ 0) : ∀ x ∈ enc l, 0 ≤ x ∧ x ≤ 255 := by
  intro x hx
  obtain ⟨v, hv, hx⟩ := List.mem_flatMap.1 hx
  exact form_bytes (h v hv) x hx
theorem scalar_at {l : List Int} (h : ∀ x ∈ l, size x ≠ 0) {k : Nat} (hk : k < l.length) : size (l.getD k 0) ≠ 0 := by
  have e : l.getD k 0 = l[k] := by simp [List.getD, List.getElem?_eq_getElem hk]
  rw [e]; exact h _ (List.getElem_mem _)
/-- The first number that is no scalar value, if there is one. -/
theorem bad_or (l : List Int) : (∀ x ∈ l, size x ≠ 0) ∨ ∃ k, k < l.length ∧ size (l.getD k 0) = 0 ∧ ∀ i, i < k → size (l.getD i 0) ≠ 0 := by
  induction l with
  | nil => left; simp
  | cons a l ih =>
    by_cases ha : size a = 0
    · exact .inr ⟨0, by simp, by simpa using ha, by intro i hi; omega⟩
    rcases ih with h | ⟨k, h1, h2, h3⟩
    · left; intro x hx; rcases List.mem_cons.1 hx with rfl | hx
      · exact ha
      · exact h x hx
    · refine .inr ⟨k + 1, by simpa using h1, by simpa using h2, ?_⟩
      intro i hi
      cases i with
      | zero => simpa using ha
      | succ i => simpa using h3 i (by omega)
/-- What the loop of Decode has read. -/
def Part (xs : List Int) (k e : Nat) : Prop := e ≤ xs.length ∧ (dec xs).1.drop k = (dec (xs.drop e)).1 ∧ (dec xs).2 = e + (dec (xs.drop e)).2
theorem Part.start (xs : List Int) : Part xs 0 0 := ⟨Nat.zero_le _, by simp, by simp⟩
theorem Part.step {xs : List Int} {k e : Nat} (h : Part xs k e) (hk : k < (dec xs).1.length) :
    (read (xs.drop e)).2 ≠ 0 ∧ (read (xs.drop e)).1 = (dec xs).1.getD k 0 ∧ Part xs (k + 1) (e + (read (xs.drop e)).2.toNat) ∧ e < xs.length := by
  obtain ⟨h1, h2, h3⟩ := h
  have hb := read_bounds (xs.drop e)
  rw [List.length_drop] at hb
  rw [List.drop_eq_getElem_cons hk] at h2
  by_cases h0 : (read (xs.drop e)).2 = 0
  · rw [dec_stop h0] at h2; cases h2
  rw [dec_step h0] at h2 h3
  simp only [List.cons.injEq, List.drop_drop] at h2 h3
  refine ⟨h0, ?_, ⟨by omega, h2.2, by omega⟩, by omega⟩
  rw [← h2.1]; simp [List.getD, List.getElem?_eq_getElem hk]
def fill (D : List Int) (m k : Nat) : List Int := D.take k ++ List.replicate (m - k) 0
theorem fill_zero (D : List Int) (m : Nat) : fill D m 0 = List.replicate m 0 := by simp [fill]
theorem fill_all (D : List Int) (m : Nat) (h : D.length = m) : fill D m m = D := by subst h; simp [fill]
theorem fill_len (D : List Int) (m k : Nat) (h : D.length = m) (hk : k ≤ m) : (fill D m k).length = m := by simp [fill]; omega
theorem fill_step (D : List Int) (m k : Nat) (h : D.length = m) (hk : k < m) : (fill D m k).set k (D.getD k 0) = fill D m (k + 1) := by
  apply List.ext_getElem
  · simp [fill]; omega
  · intro i h1 h2
    have hk' : k < D.length := by omega
    have e : D.getD k 0 = D[k] := by simp [List.getD, List.getElem?_eq_getElem hk']
    simp only [List.getElem_set, fill, e]
    by_cases hik : k = i
    · subst hik
      rw [if_pos rfl, List.getElem_append_left (by simp; omega)]
      simp
    · rw [if_neg hik]
      by_cases hlt : i < k
      · rw [List.getElem_append_left (by simp; omega), List.getElem_append_left (by simp; omega)]
        simp
      · rw [List.getElem_append_right (by simp; omega), List.getElem_append_right (by simp; omega)]
        simp
end Utf
end Go.Proofs.YtmdmehopefgndaaGreatDoor

/- Contracts of the leaves: Size (the code's and the document's), names, further, readFirst. -/
namespace Go.Proofs.YtmdmehopefgndaaGreatDoor
open Go.RowKit
set_option maxHeartbeats 400000 in
theorem size_any (v : Int) (w : World) :
    Calls Tryz.prog 14 #[.int .i32 v] w fun e w' => e = .returned (.int .i64 (Utf.size v)) ∧ w = w' := by
  go_enter Tryz.func14, Tryz.ntmps14
  go_wp2
  all_goals
    go_ret
    exact ⟨ret_int (Utf.size_eq _ _ (by omega)).symm, rfl⟩
theorem further_any (v : Int) (w : World) (h0 : 0 ≤ v) (h1 : v ≤ 2147483647) :
    Calls Tryz.prog 29 #[.int .i32 v] w fun e w' => e = .returned (.int .u8 (128 + v % 64)) ∧ w = w' := by
  go_enter Tryz.func29, Tryz.ntmps29
  go_wp2
  go_ret
  exact ⟨rfl, rfl⟩
theorem ufirst_any (c : Int) (w : World) (h0 : 0 ≤ c) (h1 : c ≤ 255) :
    Calls Tryz.prog 28 #[.int .u8 c] w fun e w' => e = .returned (.tuple #[.int .i32 (Utf.first c).1, .int .i64 (Utf.first c).2]) ∧ w = w' := by
  go_enter Tryz.func28, Tryz.ntmps28
  go_wp2
  all_goals
    go_ret2
    exact ⟨ret_ints (by unfold Utf.first; (repeat' split); all_goals omega) (by unfold Utf.first; (repeat' split); all_goals omega), rfl⟩
end Go.Proofs.YtmdmehopefgndaaGreatDoor

/- The contract of readForm: what stands at the front of bytes, as 'Utf.read' says; nothing is written. -/
namespace Go.Proofs.YtmdmehopefgndaaGreatDoor
open Go.RowKit
set_option maxHeartbeats 400000 in
theorem read_nil (ao : Option Addr) (cap : Nat) (w : World) :
    Calls Tryz.prog 13 #[.slice ao 0 cap] w fun e w' => e = .returned (.tuple #[.int .i32 0, .int .i64 0]) ∧ w = w' := by
  go_enter Tryz.func13, Tryz.ntmps13
  go_wp2
  refine wp_scope_jumps 0 (fun a' w' => w' = w ∧ ∃ tmps : Array Value, a' = { tmps := tmps, defers := [] } ∧ tmps.size = 53) (fun _ _ => 0) rfl ?_ ?_
  · go_wp2
    go_step3
    exact ⟨rfl, rfl, _, rfl, rfl⟩
  · rintro a' w' ⟨rfl, tmps, rfl, ht⟩
    go_wp2
    simp only [Exit.jump]
    exact bodyPost_ret (v := .tuple #[.int .i32 0, .int .i64 0]) (by simp [results, Tryz.results13, go_sem, ht]) rfl ⟨rfl, rfl⟩
set_option maxHeartbeats 1000000 in
theorem read_cons (b off cap : Nat) (c : Int) (cs : List Int) (w : World) (hcap : cs.length + 1 ≤ cap) (hm : cap ≤ maxLen) (hb : ∀ x ∈ c :: cs, 0 ≤ x ∧ x ≤ 255)
    (hc : ∀ i, i < (c :: cs).length → w.cell? ⟨b, off + i, none⟩ = some (.int .u8 ((c :: cs).getD i 0))) :
    Calls Tryz.prog 13 #[.slice (some ⟨b, off, none⟩) (cs.length + 1) cap] w fun e w' => e = .returned (.tuple #[.int .i32 (Utf.read (c :: cs)).1, .int .i64 (Utf.read (c :: cs)).2]) ∧ w = w' := by
  unfold maxLen at hm
  have hc0 : w.cell? ⟨b, off, none⟩ = some (.int .u8 c) := by simpa using hc 0 (by simp)
  have hcb := hb c (by simp)
  have hf := Utf.first_cases c hcb.1 hcb.2
  have hrs := @Utf.read_short c cs
  have hrn := @Utf.read_none c cs
  have hro := fun v => @Utf.read_odd c v cs
  have hrv := fun v => @Utf.read_some c v cs
  have hfa := ufirst_any c w hcb.1 hcb.2
  generalize Utf.read (c :: cs) = R at *
  rcases hfs : Utf.first c with ⟨r, s⟩
  simp only [hfs] at hf hrs hrn hro hrv hfa
  have HA := hide hfa
  have HS := hide hrs
  have HN := hide hrn
  have HO := hide hro
  have HV := hide hrv
  have HC := hide hc
  have HB := hide hb
  clear hfa hrs hrn hro hrv hc hb hfs
  go_enter Tryz.func13, Tryz.ntmps13
  go_wp2
  refine wp_scope_jumps 0 (fun a' w' => w' = w ∧ Hid (R = (0, 0)) ∧ ∃ tmps : Array Value, a' = { tmps := tmps, defers := [] } ∧ tmps.size = 53) (fun _ _ => 0) rfl ?_ ?_
  · by_cases h0 : s = 0
    · have HR := hide (HS.out (.inl h0))
      clear HS
      subst h0
      go_wp2_with (go_at_call 28; refine (HA.out).mono ?_; rintro e w' ⟨rfl, rfl⟩)
      go_step3
      exact ⟨rfl, rfl, HR, _, rfl, rfl⟩
    by_cases h1 : (cs.length : Int) + 1 < s
    · have h0' : (s == 0) = false := by simp [h0]
      go_wp2_with (go_at_call 28; refine (HA.out).mono ?_; rintro e w' ⟨rfl, rfl⟩)
      go_step3
      exact ⟨rfl, rfl, HS.out (.inr h1), _, rfl, rfl⟩
    have h0' : (s == 0) = false := by simp [h0]
    have hn : ¬ (s = 0 ∨ (cs.length : Int) + 1 < s) := by omega
    have HV2 := hide (fun v => HV.out v hn)
    clear HV HS hn
    by_cases h2 : s = 1
    · subst h2
      have hr : Utf.conts r (cs.take ((1 : Int).toNat - 1)) = some r := by simp [Utf.conts]
      by_cases hz : Utf.size r = 1
      · have HR := hide (HV2.out r hr hz)
        have hz' : (Utf.size r != 1) = false := by simp [hz]
        clear HV2 HO HN
        go_wp2_with (go_at_call 28; refine (HA.out).mono ?_; rintro e w' ⟨rfl, rfl⟩)
        all_goals
          refine wp_loop_rounds 1 ?_
          rw [rounds_succ]
          go_wp2_with (go_at_call 14; refine (size_any _ _).mono ?_; rintro e w' ⟨rfl, rfl⟩)
          simp only [Exit.jump]
          go_ret2
          rw [HR.out]
          exact ⟨rfl, rfl⟩
      · have HR := hide (HO.out r hr hz)
        have hz' : (Utf.size r != 1) = true := by simp [hz]
        clear HV2 HO HN
        go_wp2_with (go_at_call 28; refine (HA.out).mono ?_; rintro e w' ⟨rfl, rfl⟩)
        all_goals
          refine wp_loop_rounds 1 ?_
          rw [rounds_succ]
          go_wp2_with (go_at_call 14; refine (size_any _ _).mono ?_; rintro e w' ⟨rfl, rfl⟩)
          go_step3
          exact ⟨rfl, rfl, HR, _, rfl, rfl⟩
    · have hs2 : 2 ≤ s ∧ s ≤ 4 ∧ 0 ≤ r ∧ r < 32 := by omega
      clear hf
      obtain ⟨hs2, hs4, hr0, hr32⟩ := hs2
      go_wp2_with (go_at_call 28; refine (HA.out).mono ?_; rintro e w' ⟨rfl, rfl⟩)
      have hsl : ∃ n : Nat, s = n + 1 ∧ n ≤ 3 ∧ n ≤ cs.length := ⟨s.toNat - 1, by omega, by omega, by omega⟩
      obtain ⟨n, rfl, hn3, hnl⟩ := hsl
      have eT : ((n : Int) + 1).toNat - 1 = n := by omega
      rw [eT] at HN HO HV2
      have hTl : (cs.take n).length = n := by simp; omega
      have HT : Hid (∀ i, i < n → w.cell? ⟨b, off + 1 + i, none⟩ = some (.int .u8 ((cs.take n).getD i 0)) ∧ 0 ≤ (cs.take n).getD i 0 ∧ (cs.take n).getD i 0 ≤ 255) := by
        intro i hi
        have e1 := HC.out (i + 1) (by simp; omega)
        have e2 : (c :: cs).getD (i + 1) 0 = (cs.take n).getD i 0 := by rw [Utf.getD_take hi]; simp
        rw [e2, show off + (i + 1) = off + 1 + i from by omega] at e1
        refine ⟨e1, ?_⟩
        rw [← e2]
        have : i + 1 < (c :: cs).length := by simp; omega
        have e3 : (c :: cs).getD (i + 1) 0 = (c :: cs)[i + 1] := by simp [List.getD, List.getElem?_eq_getElem this]
        rw [e3]
        exact HB.out _ (List.getElem_mem _)
      generalize cs.take n = T at *
      go_loop [4, 30] (fun q i => ∃ (k : Nat) (v : Int), k ≤ n ∧ i = .int .i64 k ∧ q = .int .i32 v ∧ Utf.Bd k v ∧ Hid (Utf.conts r T = Utf.conts v (T.drop k))) (fun _ i => n - (intOf i).toNat)
      case atStart => exact ⟨0, r, Nat.zero_le _, rfl, rfl, ⟨hr0, by simpa using hr32⟩, by show _ = _; simp⟩
      case round =>
        obtain ⟨k, v, hk, rfl, rfl, hB, hX⟩ := hrel
        have hv := Utf.Bd_le hB (by omega)
        by_cases hlt : k < n
        · obtain ⟨hck, hd0, hd1⟩ := HT.out k hlt
          have Xs := hide (Utf.conts_step (hX.out) (by omega : k < T.length))
          have Xn := hide (Utf.conts_stop (hX.out) (by omega : k < T.length))
          generalize T.getD k 0 = d at *
          have HB1 := hide (fun (e1 : 0 ≤ d - 128) (e2 : d - 128 ≤ 63) => Utf.Bd_step hB e1 e2)
          clear hX hB
          by_cases g1 : d < 128
          · have HR := hide (HN.out (Xn.out (.inl g1)))
            go_wp2
            go_step3
            exact ⟨rfl, rfl, HR, _, rfl, rfl⟩
          by_cases g2 : 191 < d
          · have HR := hide (HN.out (Xn.out (.inr g2)))
            go_wp2
            go_step3
            exact ⟨rfl, rfl, HR, _, rfl, rfl⟩
          have X := hide (Xs.out (by omega))
          clear Xs Xn
          go_wp2
          go_round
          case rel => exact ⟨k + 1, _, by omega, by go_num, rfl, HB1.out (by omega) (by omega), X⟩
          case measure => simp [intOf]; omega
        · have X := Utf.conts_end (hX.out) (by omega)
          by_cases hz : Utf.size v = n + 1
          · have HR := hide (HV2.out v X hz)
            have hz' : (Utf.size v != n + 1) = false := by simp [hz]
            have hkn : k = n := by omega
            clear HV2 HO HN X hX
            go_wp2_with (go_at_call 14; refine (size_any _ _).mono ?_; rintro e w' ⟨rfl, rfl⟩)
            simp only [Exit.jump]
            go_ret2
            rw [HR.out]
            exact ⟨rfl, rfl⟩
          · have HR := hide (HO.out v X hz)
            have hz' : (Utf.size v != n + 1) = true := by simp [hz]
            clear HV2 HO HN X hX
            go_wp2_with (go_at_call 14; refine (size_any _ _).mono ?_; rintro e w' ⟨rfl, rfl⟩)
            go_step3
            exact ⟨rfl, rfl, HR, _, rfl, rfl⟩
  · rintro a' w' ⟨rfl, hR, tmps, rfl, ht⟩
    have hR' : R = (0, 0) := hR
    subst hR'
    go_wp2
    simp only [Exit.jump]
    exact bodyPost_ret (v := .tuple #[.int .i32 0, .int .i64 0]) (by simp [results, Tryz.results13, go_sem, ht]) rfl ⟨rfl, rfl⟩
end Go.Proofs.YtmdmehopefgndaaGreatDoor

/- The contracts of measure, Count and Cut. -/
namespace Go.Proofs.YtmdmehopefgndaaGreatDoor
open Go.RowKit
set_option linter.unusedVariables false
theorem read_any (b off n cap : Nat) (xs : List Int) (w : World) (hn : xs.length = n) (h0 : 0 < n) (hcap : n ≤ cap) (hm : cap ≤ maxLen) (hb : Bytes xs) (hc : Cells .u8 w b off xs) :
    Calls Tryz.prog 13 #[.slice (some ⟨b, off, none⟩) n cap] w fun e w' => e = .returned (.tuple #[.int .i32 (Utf.read xs).1, .int .i64 (Utf.read xs).2]) ∧ w = w' := by
  cases xs with
  | nil => simp at hn; omega
  | cons c cs =>
    simp only [List.length_cons] at hn
    subst hn
    exact read_cons b off cap c cs w hcap hm hb hc
set_option maxHeartbeats 400000 in
theorem measure_nil (ao : Option Addr) (cap : Nat) (w : World) (hm : cap ≤ maxLen) :
    Calls Tryz.prog 12 #[.slice ao 0 cap] w fun e w' => e = .returned (.tuple #[.int .i64 0, .int .i64 0]) ∧ w = w' := by
  unfold maxLen at hm
  go_enter Tryz.func12, Tryz.ntmps12
  go_wp2
  refine wp_loop_rounds 1 ?_
  rw [rounds_succ]
  go_wp2_with (go_at_call 13; refine (read_nil _ _ _).mono ?_; rintro e w' ⟨rfl, rfl⟩)
  all_goals
    go_ret2
    exact ⟨rfl, rfl⟩
set_option maxHeartbeats 400000 in
theorem measure_some (b off n cap : Nat) (xs : List Int) (w : World) (hn : xs.length = n) (h0 : 0 < n) (hcap : n ≤ cap) (hm : cap ≤ maxLen) (hb : Bytes xs) (hc : Cells .u8 w b off xs) :
    Calls Tryz.prog 12 #[.slice (some ⟨b, off, none⟩) n cap] w fun e w' => e = .returned (.tuple #[.int .i64 (Utf.dec xs).1.length, .int .i64 (Utf.dec xs).2]) ∧ w = w' := by
  have hm' := hm
  unfold maxLen at hm
  have HC := hide hc
  have HB := hide hb
  have HN := hide hn
  have HM := hide hm'
  clear hc hb hn hm'
  go_enter Tryz.func12, Tryz.ntmps12
  go_wp2
  go_loop [2, 3] (fun c i => ∃ (k e : Nat), c = .int .i64 k ∧ i = .int .i64 e ∧ e ≤ n ∧ k ≤ e ∧ Hid (Utf.Went xs k e)) (fun _ i => n - (intOf i).toNat)
  case atStart => exact ⟨0, 0, rfl, rfl, Nat.zero_le _, Nat.le_refl _, Utf.Went.start xs⟩
  case round =>
    obtain ⟨k, e, rfl, rfl, he, hk, hw⟩ := hrel
    by_cases hlt : e < n
    · have hrd := hide (read_any b (off + e) (n - e) (cap - e) (xs.drop e) w (by rw [List.length_drop, HN.out]) (by omega) (by omega) (by have := HM.out; omega) (HB.out.drop e) (HC.out.drop e))
      have hbd := Utf.read_bounds (xs.drop e)
      rw [List.length_drop, HN.out] at hbd
      have HS := hide (fun h => hw.out.step (xs := xs) (k := k) (e := e) h)
      have HT := hide (fun h => hw.out.stop (xs := xs) (k := k) (e := e) h)
      rcases hR : Utf.read (xs.drop e) with ⟨v, s⟩
      rw [hR] at hrd hbd HS HT
      simp only at hbd
      obtain ⟨hb1, hb2, hb3, _⟩ := hbd
      clear hR
      by_cases hz : s = 0
      · have HX := hide (HT.out hz)
        have hz' : (s == 0) = true := by simp [hz]
        clear HT HS hz
        go_wp2_with (go_at_call 13; refine hrd.out.mono ?_; rintro e w' ⟨rfl, rfl⟩)
        all_goals
          go_ret2
          rw [HX.out.1, HX.out.2]
          exact ⟨rfl, rfl⟩
      · have HX := hide (HS.out hz)
        have hz' : (s == 0) = false := by simp [hz]
        clear HT HS
        go_wp2_with (go_at_call 13; refine hrd.out.mono ?_; rintro e w' ⟨rfl, rfl⟩)
        all_goals
          go_round
          case rel => exact ⟨k + 1, e + s.toNat, by go_num, by go_num, by omega, by omega, HX⟩
          case measure => simp [intOf]; omega
    · have hen : e = n := by omega
      have hl : (Utf.read (xs.drop e)).2 = 0 := by rw [List.drop_of_length_le (by have := HN.out; omega)]; rfl
      have HX := hide (hw.out.stop hl)
      clear hl hlt
      subst hen
      go_wp2_with (go_at_call 13; refine (read_nil _ _ _).mono ?_; rintro e w' ⟨rfl, rfl⟩)
      all_goals
        go_ret2
        rw [HX.out.1, HX.out.2]
        exact ⟨rfl, rfl⟩
theorem measure_any (ao : Option Addr) (n cap : Nat) (xs : List Int) (w : World) (h : Row .u8 w ao n cap xs) (hb : Bytes xs) :
    Calls Tryz.prog 12 #[.slice ao n cap] w fun e w' => e = .returned (.tuple #[.int .i64 (Utf.dec xs).1.length, .int .i64 (Utf.dec xs).2]) ∧ w = w' := by
  obtain ⟨hn, hcap, hm, hc, _⟩ := h
  by_cases h0 : n = 0
  · subst h0
    obtain rfl : xs = [] := List.length_eq_zero_iff.1 hn
    exact measure_nil ao cap w hm
  · obtain ⟨b, off, rfl, _, hc⟩ := hc (by omega)
    exact measure_some b off n cap xs w hn (by omega) hcap hm hb hc
/-- How many, and whether it is a text. -/
def whole (xs : List Int) : Bool := (Utf.dec xs).2 == xs.length
end Go.Proofs.YtmdmehopefgndaaGreatDoor

/- The contract of appendForm. -/
namespace Go.Proofs.YtmdmehopefgndaaGreatDoor
open Go.RowKit
set_option linter.unusedVariables false
theorem Tryz.info5 : (Tryz.prog.info? 5).map (fun i => (i.zero, i.size, i.bytes)) = some (some (.int .u8 0), 1, 1) := by kernel_rfl
theorem app_close {base n m : Nat} {v v' : Value} {xs fs : List Int} {news : List Value} {w w2 : World} {o : Obj} (hb : base ≤ w.heap.size) (hown : w.ownsRow base 5 1 v n (xs.map (Value.int .u8)))
    (h1 : w2.ownsRow base 5 1 v' (n + m) (xs.map (Value.int .u8) ++ news)) (hg : (w.alloc o).grownBy w2 v.ownBlock) (hf : news = fs.map (Value.int .u8)) (hm : m = fs.length) :
    w2.ownsRow base 5 1 v' (n + fs.length) ((xs ++ fs).map (Value.int .u8)) ∧ Below base w w2 := by
  subst hm hf
  rw [List.map_append]
  exact ⟨h1, ((Below.refl base w).alloc hb o).grown hg (by simp; omega) (fun k hk => (hown.lt k hk).1)⟩
set_option maxHeartbeats 1000000 in
theorem append_any (base : Nat) (v : Value) (n : Nat) (xs : List Int) (r : Int) (w : World) (hown : w.ownsRow base 5 1 v n (xs.map (Value.int .u8))) (hb : base ≤ w.heap.size) (hn : n ≤ 140737488355320) (hr : Utf.size r ≠ 0) :
    Calls Tryz.prog 15 #[v, .int .i32 r] w fun e w' => ∃ v', e = .returned v' ∧ w'.ownsRow base 5 1 v' (n + (Utf.form r).length) ((xs ++ Utf.form r).map (Value.int .u8)) ∧ Below base w w' := by
  have hs := Utf.size_cases r
  obtain ⟨i5, hi, hz0, hz1, hz2⟩ := info_parts Tryz.info5
  have HI : Hid (Tryz.prog.info? 5 = some i5) := hi
  by_cases h1 : r < 128
  · have hr0 : 0 ≤ r := by omega
    have hs1 : Utf.size r = 1 := by omega
    have HF : Hid (Utf.form r = [r]) := by simp [Hid, Utf.form, h1]
    clear hs hr
    go_enter Tryz.func15, Tryz.ntmps15
    go_wp2_with (first | (go_at_call 14; refine (size_any _ _).mono ?_; rintro e w' ⟨rfl, rfl⟩) | (go_at_call 29; refine (further_any _ _ (by omega) (by omega)).mono ?_; rintro e w' ⟨rfl, rfl⟩) | (at_builtin; refine wpList_append_own _ rfl _ _ 22 rfl base 5 i5 (.int .u8 0) 1 1 Tryz.underlying22 HI.out hz0 hz1 hz2 rfl (by decide) _ _ _ rfl (hown.alloc _) ⟨w.heap.size, 0, none⟩ 1 1 [.int .u8 (r)] rfl rfl ?c1 ?c2 ?c3 ?c4 ?c5 ?_))
    case c1 => exact World.news_of_block (heap_alloc_new w _)
    case c2 => exact ints_oneCell .u8 [r]
    case c3 => unfold maxLen; omega
    case c4 => omega
    case c5 => simp; omega
    intro v' w2 hown' hgrow _
    have HX := hide (app_close (fs := [r]) hb hown hown' hgrow rfl rfl)
    clear hown' hgrow hown
    go_wp2
    go_ret
    rw [HF.out]
    exact ⟨_, rfl, HX.out⟩
  by_cases h2 : r < 2048
  · have hr0 : 128 ≤ r := by omega
    have hs1 : Utf.size r = 2 := by omega
    have HF : Hid (Utf.form r = [192 + r / 64, 128 + r % 64]) := by simp [Hid, Utf.form, h1, h2]
    clear hs hr
    go_enter Tryz.func15, Tryz.ntmps15
    go_wp2_with (first | (go_at_call 14; refine (size_any _ _).mono ?_; rintro e w' ⟨rfl, rfl⟩) | (go_at_call 29; refine (further_any _ _ (by omega) (by omega)).mono ?_; rintro e w' ⟨rfl, rfl⟩) | (at_builtin; refine wpList_append_own _ rfl _ _ 22 rfl base 5 i5 (.int .u8 0) 1 1 Tryz.underlying22 HI.out hz0 hz1 hz2 rfl (by decide) _ _ _ rfl (hown.alloc _) ⟨w.heap.size, 0, none⟩ 2 2 [.int .u8 (192 + r / 64), .int .u8 (128 + r % 64)] rfl rfl ?c1 ?c2 ?c3 ?c4 ?c5 ?_))
    case c1 => exact World.news_of_block (heap_alloc_new w _)
    case c2 => exact ints_oneCell .u8 [192 + r / 64, 128 + r % 64]
    case c3 => unfold maxLen; omega
    case c4 => omega
    case c5 => simp; omega
    intro v' w2 hown' hgrow _
    have HX := hide (app_close (fs := [192 + r / 64, 128 + r % 64]) hb hown hown' hgrow rfl rfl)
    clear hown' hgrow hown
    go_wp2
    go_ret
    rw [HF.out]
    exact ⟨_, rfl, HX.out⟩
  by_cases h3 : r < 65536
  · have hr0 : 2048 ≤ r := by omega
    have hs1 : Utf.size r = 3 := by omega
    have HF : Hid (Utf.form r = [224 + r / 4096, 128 + r / 64 % 64, 128 + r % 64]) := by simp [Hid, Utf.form, h1, h2, h3]
    clear hs hr
    go_enter Tryz.func15, Tryz.ntmps15
    go_wp2_with (first | (go_at_call 14; refine (size_any _ _).mono ?_; rintro e w' ⟨rfl, rfl⟩) | (go_at_call 29; refine (further_any _ _ (by omega) (by omega)).mono ?_; rintro e w' ⟨rfl, rfl⟩) | (at_builtin; refine wpList_append_own _ rfl _ _ 22 rfl base 5 i5 (.int .u8 0) 1 1 Tryz.underlying22 HI.out hz0 hz1 hz2 rfl (by decide) _ _ _ rfl (hown.alloc _) ⟨w.heap.size, 0, none⟩ 3 3 [.int .u8 (224 + r / 4096), .int .u8 (128 + r / 64 % 64), .int .u8 (128 + r % 64)] rfl rfl ?c1 ?c2 ?c3 ?c4 ?c5 ?_))
    case c1 => exact World.news_of_block (heap_alloc_new w _)
    case c2 => exact ints_oneCell .u8 [224 + r / 4096, 128 + r / 64 % 64, 128 + r % 64]
    case c3 => unfold maxLen; omega
    case c4 => omega
    case c5 => simp; omega
    intro v' w2 hown' hgrow _
    have HX := hide (app_close (fs := [224 + r / 4096, 128 + r / 64 % 64, 128 + r % 64]) hb hown hown' hgrow rfl rfl)
    clear hown' hgrow hown
    go_wp2
    go_ret
    rw [HF.out]
    exact ⟨_, rfl, HX.out⟩
  · have hr0 : 65536 ≤ r := by omega
    have hr1 : r ≤ 1114111 := by omega
    have hs1 : Utf.size r = 4 := by omega
    have HF : Hid (Utf.form r = [240 + r / 262144, 128 + r / 4096 % 64, 128 + r / 64 % 64, 128 + r % 64]) := by simp [Hid, Utf.form, h1, h2, h3]
    clear hs hr
    go_enter Tryz.func15, Tryz.ntmps15
    go_wp2_with (first | (go_at_call 14; refine (size_any _ _).mono ?_; rintro e w' ⟨rfl, rfl⟩) | (go_at_call 29; refine (further_any _ _ (by omega) (by omega)).mono ?_; rintro e w' ⟨rfl, rfl⟩) | (at_builtin; refine wpList_append_own _ rfl _ _ 22 rfl base 5 i5 (.int .u8 0) 1 1 Tryz.underlying22 HI.out hz0 hz1 hz2 rfl (by decide) _ _ _ rfl (hown.alloc _) ⟨w.heap.size, 0, none⟩ 4 4 [.int .u8 (240 + r / 262144), .int .u8 (128 + r / 4096 % 64), .int .u8 (128 + r / 64 % 64), .int .u8 (128 + r % 64)] rfl rfl ?c1 ?c2 ?c3 ?c4 ?c5 ?_))
    case c1 => exact World.news_of_block (heap_alloc_new w _)
    case c2 => exact ints_oneCell .u8 [240 + r / 262144, 128 + r / 4096 % 64, 128 + r / 64 % 64, 128 + r % 64]
    case c3 => unfold maxLen; omega
    case c4 => omega
    case c5 => simp; omega
    intro v' w2 hown' hgrow _
    have HX := hide (app_close (fs := [240 + r / 262144, 128 + r / 4096 % 64, 128 + r / 64 % 64, 128 + r % 64]) hb hown hown' hgrow rfl rfl)
    clear hown' hgrow hown
    go_wp2
    go_ret
    rw [HF.out]
    exact ⟨_, rfl, HX.out⟩
end Go.Proofs.YtmdmehopefgndaaGreatDoor
