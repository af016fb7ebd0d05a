/- Plain mathematics of lists of numbers. No Go in sight. -/
import Derived.RowKit
namespace Go.Proofs.Ythhfgcpflclflaa
def Bytes (zs : List Int) : Prop := ∀ x ∈ zs, 0 ≤ x ∧ x ≤ 255
theorem Bytes.drop {zs : List Int} (h : Bytes zs) (e : Nat) : Bytes (zs.drop e) := fun x hx => h x (List.mem_of_mem_drop hx)
theorem Bytes.take {zs : List Int} (h : Bytes zs) (e : Nat) : Bytes (zs.take e) := fun x hx => h x (List.mem_of_mem_take hx)
theorem Bytes.nil : Bytes [] := by intro x hx; cases hx
theorem Bytes.head {c : Int} {cs : List Int} (h : Bytes (c :: cs)) : 0 ≤ c ∧ c ≤ 255 := h c (by simp)
theorem Bytes.tail {c : Int} {cs : List Int} (h : Bytes (c :: cs)) : Bytes cs := fun x hx => h x (by simp [hx])
theorem Bytes.append {xs ys : List Int} (h : Bytes xs) (k : Bytes ys) : Bytes (xs ++ ys) := by
  intro x hx
  rcases List.mem_append.1 hx with hx | hx
  · exact h x hx
  · exact k x hx
theorem Bytes.getD {zs : List Int} (h : Bytes zs) (k : Nat) : 0 ≤ zs.getD k 0 ∧ zs.getD k 0 ≤ 255 := by
  by_cases hk : k < zs.length
  · have e : zs.getD k 0 = zs[k] := by simp [List.getD, List.getElem?_eq_getElem hk]
    rw [e]; exact h _ (List.getElem_mem _)
  · have e : zs.getD k 0 = 0 := by simp [List.getD, List.getElem?_eq_none (Nat.le_of_not_lt hk)]
    rw [e]; omega
theorem getD_take {T : List Int} {n k : Nat} (h : k < n) : (T.take n).getD k 0 = T.getD k 0 := by
  simp [List.getD, h]
theorem take_snoc (l : List Int) (k : Nat) (h : k < l.length) : l.take (k + 1) = l.take k ++ [l.getD k 0] := by
  rw [List.take_succ_eq_append_getElem h]; simp [List.getD, List.getElem?_eq_getElem h]
theorem getD_left (a b : List Int) (i : Nat) (h : i < a.length) : (a ++ b).getD i 0 = a.getD i 0 := by
  simp [List.getD, List.getElem?_append_left h]
theorem getD_right (a b : List Int) (i : Nat) : (a ++ b).getD (a.length + i) 0 = b.getD i 0 := by
  simp [List.getD, List.getElem?_append_right]
end Go.Proofs.Ythhfgcpflclflaa
