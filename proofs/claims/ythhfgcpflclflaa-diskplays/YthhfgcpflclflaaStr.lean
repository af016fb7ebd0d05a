/- string(b) of a row of bytes. -/
import Derived.Test.YthhfgcpflclflaaArgs
import Derived.Test.YthhfgcpflclflaaRows
import Derived.WalkKit
import Derived.Laws.IdiomStrings
namespace Go.Proofs.Ythhfgcpflclflaa
open Go.RowKit
set_option linter.unusedVariables false
/-- The text of bytes. -/
def str (zs : List Int) : ByteArray := ⟨(zs.map (fun z => UInt8.ofNat z.toNat)).toArray⟩
theorem byte_back {z : Int} (h0 : 0 ≤ z) (h1 : z ≤ 255) : ((UInt8.ofNat z.toNat).toNat : Int) = z := by
  rw [UInt8.toNat_ofNat']
  omega
theorem run_str (w : World) (ao : Option Addr) (n cap : Nat) (zs : List Int) (h : Row .u8 w ao n cap zs) (hb : Bytes zs) :
    (convert 33 9 (.slice ao n cap)).run Try.prog w = .ok (.string (str zs)) w := by
  by_cases h0 : 0 < n
  · obtain ⟨b, off, rfl, _, hc⟩ := h.cells h0
    have hl : (zs.map (fun z => UInt8.ofNat z.toNat)).length = n := by simp [h.len]
    have := run_convert_bytes_back (P := Try.prog) w 33 9 5 ⟨b, off, none⟩ cap (zs.map (fun z => UInt8.ofNat z.toNat)) Try.underlying33 Try.underlying5 Try.underlying9 (fun j hj => by
      have hj' : j < zs.length := by simpa using hj
      have hadd : (⟨b, off, none⟩ : Addr).add j = ⟨b, off + j, none⟩ := by unfold Addr.add; split <;> simp_all
      rw [hadd, hc j hj']
      have e : zs.getD j 0 = zs[j] := by simp [List.getD, List.getElem?_eq_getElem hj']
      rw [e]
      have hbz := hb zs[j] (List.getElem_mem _)
      simp only [List.getElem_map]
      rw [byte_back hbz.1 hbz.2])
    rw [hl] at this
    exact this
  · obtain rfl : n = 0 := by omega
    obtain rfl : zs = [] := List.length_eq_zero_iff.1 h.len
    rw [run_convert_bytes_string w 33 9 5 ao 0 cap Try.underlying33 Try.underlying5 Try.underlying9]
    cases ao <;> rfl
theorem run_str_nil (w : World) : (convert 33 9 (.slice none 0 0)).run Try.prog w = .ok (.string (str [])) w :=
  run_str w none 0 0 [] (row_nil .u8 w) (by intro x hx; cases hx)
theorem str_size (zs : List Int) : (str zs).size = zs.length := by simp [str, ByteArray.size]
theorem str_append (a b : List Int) : str (a ++ b) = str a ++ str b := by
  apply WideShapes.bytes_inj
  simp [str]
theorem str_inj {a b : List Int} (ha : Bytes a) (hb : Bytes b) (h : str a = str b) : a = b := by
  have hd : (a.map (fun z => UInt8.ofNat z.toNat)) = (b.map (fun z => UInt8.ofNat z.toNat)) := by
    have := congrArg (fun s : ByteArray => s.data.toList) h
    simpa [str] using this
  have hl : a.length = b.length := by simpa using congrArg List.length hd
  apply List.ext_getElem hl
  intro i h1 h2
  have hi : (a.map (fun z => UInt8.ofNat z.toNat))[i]? = (b.map (fun z => UInt8.ofNat z.toNat))[i]? := by rw [hd]
  simp only [List.getElem?_map, List.getElem?_eq_getElem h1, List.getElem?_eq_getElem h2, Option.map_some, Option.some.injEq] at hi
  have b1 := ha _ (List.getElem_mem h1)
  have b2 := hb _ (List.getElem_mem h2)
  rw [← byte_back b1.1 b1.2, ← byte_back b2.1 b2.2, hi]
end Go.Proofs.Ythhfgcpflclflaa
