/- string(b) of a row of bytes. -/
import Derived.Test.YtkcalmighgdojabEnc
import Derived.Laws.IdiomStrings
namespace Go.Proofs.Ytkcalmighgdojab
open Go.RowKit
set_option linter.unusedVariables false
/-- The text of bytes. -/
def str (zs : List Int) : ByteArray := ⟨(zs.map (fun z => UInt8.ofNat z.toNat)).toArray⟩
theorem byte_back {z : Int} (h0 : 0 ≤ z) (h1 : z ≤ 255) : ((UInt8.ofNat z.toNat).toNat : Int) = z := by
  rw [UInt8.toNat_ofNat']
  omega
theorem run_str (w : World) (ao : Option Addr) (n cap : Nat) (zs : List Int) (h : Row .u8 w ao n cap zs) (hb : Bytes zs) :
    (convert 24 9 (.slice ao n cap)).run Try.prog w = .ok (.string (str zs)) w := by
  by_cases h0 : 0 < n
  · obtain ⟨b, off, rfl, _, hc⟩ := h.cells h0
    have hl : (zs.map (fun z => UInt8.ofNat z.toNat)).length = n := by simp [h.len]
    have := run_convert_bytes_back (P := Try.prog) w 24 9 5 ⟨b, off, none⟩ cap (zs.map (fun z => UInt8.ofNat z.toNat)) Try.underlying24 Try.underlying5 Try.underlying9 (fun j hj => by
      have hj' : j < zs.length := by simpa using hj
      have hadd : (⟨b, off, none⟩ : Addr).add j = ⟨b, off + j, none⟩ := by unfold Addr.add; split <;> simp_all
      rw [hadd, hc j hj']
      have e : zs.getD j 0 = zs[j] := by simp [List.getD, List.getElem?_eq_getElem hj']
      rw [e]
      have hbz := hb zs[j] (List.getElem_mem _)
      simp only [List.getElem_map]
      rw [byte_back hbz.1 hbz.2])
    rw [hl] at this
    exact this
  · obtain rfl : n = 0 := by omega
    obtain rfl : zs = [] := List.length_eq_zero_iff.1 h.len
    rw [run_convert_bytes_string w 24 9 5 ao 0 cap Try.underlying24 Try.underlying5 Try.underlying9]
    cases ao <;> rfl
end Go.Proofs.Ytkcalmighgdojab
