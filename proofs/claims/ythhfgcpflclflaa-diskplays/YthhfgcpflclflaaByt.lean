/- []byte(s): the new block of a text's bytes, written byte by byte, and read back as a text. -/
import Derived.Test.YthhfgcpflclflaaStr
import Derived.Test.YthhfgcpflclflaaInts
namespace Go.Proofs.Ythhfgcpflclflaa
open Go.RowKit
set_option linter.unusedVariables false
/-- A new block that holds these bytes. -/
structure BR (w0 : World) (g : Nat) (zs : List Int) (w : World) : Prop where
  new : w0.heap.size ≤ g
  old : g < w.heap.size
  cells : ∀ j, j < zs.length → w.cell? ⟨g, j, none⟩ = some (.int .u8 (zs.getD j 0))
  fz : ∀ j, j < zs.length → w.frozen? ⟨g, j, none⟩ = false
  bel : Below w0.heap.size w0 w
theorem BR.set {w0 w : World} {g : Nat} {zs : List Int} (h : BR w0 g zs w) (k : Nat) (y : Int) : BR w0 g (zs.set k y) (w.setCell ⟨g, k, none⟩ (.int .u8 y)) := by
  have hs : ∀ j, (w.setCell ⟨g, k, none⟩ (.int .u8 y)).frozen? ⟨g, j, none⟩ = w.frozen? ⟨g, j, none⟩ := fun j => World.frozen?_setCell ..
  refine ⟨h.new, by simp [World.setCell]; exact h.old, fun j hj => ?_, fun j hj => ?_, h.bel.setCell h.new _⟩
  · rw [List.length_set] at hj
    by_cases e : j = k
    · subst e
      rw [World.cell?_setCell_same _ _ _ (h.cells j hj)]
      simp [List.getD, hj]
    · rw [World.cell?_setCell_other _ _ _ _ (by intro q; cases q; exact e rfl), h.cells j hj]
      simp only [List.getD, List.getElem?_set_ne (Ne.symm e)]
  · rw [List.length_set] at hj
    rw [hs, h.fz j hj]
theorem BR.drewN {w0 w : World} {g : Nat} {zs : List Int} (h : BR w0 g zs w) (q : Nat) : BR w0 g zs (w.drewN q) :=
  ⟨h.new, h.old, h.cells, h.fz, KO.on (w := w0) h.bel (below_drewN w q)⟩
theorem run_back {P : Program} {w : World} {g cap t e s : Nat} {zs : List Int} (h : ∀ j, j < zs.length → w.cell? ⟨g, j, none⟩ = some (.int .u8 (zs.getD j 0))) (hb : Bytes zs) (hs : P.underlying t = some (.slice e)) (he : P.underlying e = some (.int .u8)) (hd : P.underlying s = some .string) :
    (convert t s (.slice (some ⟨g, 0, none⟩) zs.length cap)).run P w = .ok (.string (str zs)) w := by
  have hl : (zs.map (fun z => UInt8.ofNat z.toNat)).length = zs.length := by simp
  have := run_convert_bytes_back (P := P) w t s e ⟨g, 0, none⟩ cap (zs.map (fun z => UInt8.ofNat z.toNat)) hs he hd (fun j hj => by
    have hj' : j < zs.length := by simpa using hj
    have hadd : (⟨g, 0, none⟩ : Addr).add j = ⟨g, j, none⟩ := by unfold Addr.add; split <;> simp_all
    rw [hadd, h j hj']
    have e : zs.getD j 0 = zs[j] := by simp [List.getD, List.getElem?_eq_getElem hj']
    rw [e]
    have hbz := hb zs[j] (List.getElem_mem _)
    simp only [List.getElem_map]
    rw [byte_back hbz.1 hbz.2])
  rw [hl] at this
  exact this
theorem run_bytes {P : Program} (w : World) {t e s : Nat} {zs : List Int} (hb : Bytes zs) (hd : P.underlying t = some (.slice e)) (he : P.underlying e = some (.int .u8)) (hs : P.underlying s = some .string) :
    ∃ cap w', (convert s t (.string (str zs))).run P w = .ok (.slice (some ⟨w.heap.size, 0, none⟩) zs.length cap) w' ∧ BR w w.heap.size zs w' := by
  have hz := str_size zs
  have hr := run_bytes_of_string (P := P) w s t e (str zs) hs hd he
  rw [hz] at hr
  refine ⟨_, _, hr, ⟨Nat.le_refl _, by simp, fun j hj => ?_, fun j hj => ?_, ?_⟩⟩
  · show (World.alloc w.drew _).cell? ⟨w.drew.heap.size, j, none⟩ = _
    rw [World.cell?_alloc_mark]
    rw [bytesRow_at (str zs) _ j (by simpa [str] using hj)]
    have e : zs.getD j 0 = zs[j] := by simp [List.getD, List.getElem?_eq_getElem hj]
    have hbz := hb zs[j] (List.getElem_mem _)
    rw [e]
    simp only [str]
    simp only [List.getElem_toArray, List.getElem_map]
    rw [byte_back hbz.1 hbz.2]
  · show (World.alloc w.drew _).frozen? ⟨w.drew.heap.size, j, none⟩ = _
    rw [World.frozen?_alloc_mark]
    have hlen : j < (bytesRow (str zs) (grownCap w zs.length 0 e)).size := by
      unfold bytesRow
      rw [Array.size_append, Array.size_map]
      simp [str]
      omega
    simp
    omega
  · exact KO.alloc (KO.drew (KO.refl w)) _
end Go.Proofs.Ythhfgcpflclflaa
