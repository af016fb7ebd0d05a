/- Plain mathematics: what is read of a beginning of bytes; heads of forms. -/
import Derived.Test.YtkcalmighgdojaaTrip
import Derived.Test.YtkcalmighgdojaaArgs
namespace Go.Proofs.Ytkcalmighgdojaa
set_option linter.unusedVariables false
theorem Utf.read_take {ys : List Int} {q : Nat} (hb : Bytes ys) (h0 : (Utf.read ys).2 ≠ 0) (hq : (Utf.read ys).2.toNat ≤ q) : Utf.read (ys.take q) = Utf.read ys := by
  obtain ⟨e1, e2⟩ := Utf.form_read h0 hb
  have hbd := Utf.read_bounds ys
  have : Utf.read (ys.take q) = ((Utf.read ys).1, (((Utf.read ys).2.toNat : Nat) : Int)) := by
    refine Utf.read_of_take (by omega) (by omega) ?_
    rw [List.take_take, e1]
    congr 1
    omega
  rw [this]
  have h2 : ((((Utf.read ys).2.toNat : Nat)) : Int) = (Utf.read ys).2 := by omega
  rw [h2]
theorem Utf.read_cut {ys : List Int} {q : Nat} (hb : Bytes ys) (h : (Utf.read ys).2 = 0 ∨ q < (Utf.read ys).2.toNat) : (Utf.read (ys.take q)).2 = 0 := by
  by_cases h0 : (Utf.read (ys.take q)).2 = 0
  · exact h0
  exfalso
  obtain ⟨e1, e2⟩ := Utf.form_read h0 (hb.take q)
  have hbd := Utf.read_bounds (ys.take q)
  rw [List.length_take] at hbd
  have : Utf.read ys = ((Utf.read (ys.take q)).1, (((Utf.read (ys.take q)).2.toNat : Nat) : Int)) := by
    refine Utf.read_of_take (by omega) (by omega) ?_
    rw [e1, List.take_take]
    congr 1
    omega
  rw [this] at h
  simp only at h
  omega
end Go.Proofs.Ytkcalmighgdojaa
