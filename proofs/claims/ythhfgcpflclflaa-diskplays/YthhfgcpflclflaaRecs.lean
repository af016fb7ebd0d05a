/- An argument that is a slice of structs of any number of one-cell fields: what its reading gives, cell by cell. -/
import Derived.Test.YthhfgcpflclflaaArgs
import Derived.Test.YthhfgcpflclflaaFields5
import Derived.Test.YthhfgcpflclflaaText10
import Derived.Deep.Slices
import Derived.SizedLaws
namespace Go.Proofs.Ythhfgcpflclflaa
open Go.ChangeShapes Go.WideShapes Go.ChangeAt Go.RowKit Go.Deep
set_option linter.unusedVariables false
theorem weights_all {H : Type} {P : Program} {e : TypeId} {x : Nat} : ∀ {ds : List (DataW H)} {d : DataW H}, d ∈ ds → x ∈ d.weights P e → x ∈ DataW.weightsAll P e ds
  | [], d, h, _ => by cases h
  | a :: ds, d, h, hx => by
    rw [DataW.weightsAll]
    rcases List.mem_cons.1 h with rfl | h
    · exact List.mem_append_left _ hx
    · exact List.mem_append_right _ (weights_all h hx)
/-- The cells of one struct, each with its reading. -/
theorem rec_cells {H : Type} {enc : TypeId × Value → H} {P : Program} {W : World} {t : TypeId} {fs : Array Field} {fuel : Nat} {cs : List Value} {x : DataW H × List MemPlace}
    (hs : P.underlying t = some (.struct fs)) (hone : oneCellFields P fs = true) (hl : cs.length = fs.size) (h : DataW.trod enc P W 0 (fun _ => true) true fuel t cs = some x) :
    ∃ n, ∀ (j : Nat) (f : Field), fs[j]? = some f → ∃ c y, cs[j]? = some c ∧ DataW.trod enc P W 0 (fun _ => true) true n f.type [c] = some y ∧ ∀ g, g ∈ y.1.weights P f.type → g ∈ x.1.weights P t := by
  obtain ⟨ys, n, _, hx, _, hyl, hall⟩ := DataW.trod_struct hs h
  refine ⟨n, fun j f hj => ?_⟩
  have hjs : j < fs.size := (Array.getElem?_eq_some_iff.1 hj).1
  obtain ⟨o, k⟩ := hone_of hone j f hj
  have := hall j f hj
  rw [o, k] at this
  have hjl : j < cs.length := by omega
  have hy : ys[j]? = some ys[j] := List.getElem?_eq_getElem (by omega)
  refine ⟨cs[j], ys[j], List.getElem?_eq_getElem hjl, ?_, fun g hg => ?_⟩
  · rw [hy] at this
    rw [← this]
    congr 1
    rw [List.drop_eq_getElem_cons hjl]
    rfl
  · subst hx
    simp only [DataW.weights, hs]
    refine DataW.weights_mem_each (j := j) (t := f.type) (d := ys[j].1) ?_ ?_ g hg
    · rw [List.getElem?_map, Array.getElem?_toList, hj]; rfl
    · rw [List.getElem?_map, hy]; rfl
/-- A slice of structs. -/
theorem open_recs {H : Type} {enc : TypeId × Value → H} {P : Program} {W : World} {t e : TypeId} {fs : Array Field} {a : Option Addr} {len cap : Nat} {d : DataW H} {p : List MemPlace}
    (ht : P.underlying t = some (.slice e)) (hs : P.underlying e = some (.struct fs)) (hone : oneCellFields P fs = true) (hC : P.cellsOf e = fs.size) (h0 : 0 < fs.size)
    (h : DataW.Trod enc P W 0 (fun _ => true) true t (.slice a len cap) d p) :
    len ≤ cap ∧ cap ≤ maxLen ∧ (0 < len → ∃ b off, a = some ⟨b, off, none⟩ ∧ b < W.heap.size ∧
      ∀ i, i < len → ∃ n, ∀ (j : Nat) (f : Field), fs[j]? = some f → ∃ c y, W.cell? ⟨b, off + i * fs.size + j, none⟩ = some c ∧ DataW.trod enc P W 0 (fun _ => true) true n f.type [c] = some y ∧ ∀ g, g ∈ y.1.weights P f.type → g ∈ d.weights P t) := by
  obtain ⟨fuel, hf⟩ := h
  rcases open_slice ht hf with ⟨hcs, _⟩ | ⟨x, l, c, m, n, D, Pl, hcs, _, hl, hm, hmm, hcs2, hx⟩
  · simp [Value.cells] at hcs
    obtain ⟨rfl, rfl, rfl⟩ := hcs
    exact ⟨Nat.le_refl _, Nat.zero_le _, fun h => by omega⟩
  · simp [Value.cells] at hcs
    obtain ⟨rfl, rfl, rfl⟩ := hcs
    simp only [if_true] at hmm
    subst hmm
    refine ⟨hl, hm, fun hpos => ?_⟩
    have key : ∀ i, i < len → ∃ n, ∀ (j : Nat) (f : Field), fs[j]? = some f → ∃ c y, W.cell? (x.add (i * fs.size + j)) = some c ∧ DataW.trod enc P W 0 (fun _ => true) true n f.type [c] = some y ∧ ∀ g, g ∈ y.1.weights P f.type → g ∈ d.weights P t := by
      intro i hi
      obtain ⟨cs', h1, h2⟩ := hx i (by omega)
      rw [hC] at h1
      obtain ⟨_, hlen, hcell⟩ := World.cells?_some h1
      obtain ⟨n, hn⟩ := rec_cells hs hone hlen h2
      refine ⟨n, fun j f hj => ?_⟩
      obtain ⟨c, y, hc, hy, hg⟩ := hn j f hj
      have hjs : j < fs.size := (Array.getElem?_eq_some_iff.1 hj).1
      have := hcell j hjs
      rw [add_add, hc] at this
      refine ⟨c, y, this, hy, fun g hgg => ?_⟩
      have hd : d = .slice ((List.range len).map D) _ := congrArg Prod.fst hcs2
      rw [hd]
      simp only [DataW.weights, ht]
      exact List.mem_cons_of_mem _ (List.mem_append_left _ (weights_all (List.mem_map.2 ⟨i, List.mem_range.2 hi, rfl⟩) (hg g hgg)))
    obtain ⟨b, off, spot⟩ := x
    obtain ⟨f0, hf0⟩ : ∃ f, fs[0]? = some f := ⟨fs[0], Array.getElem?_eq_getElem h0⟩
    obtain ⟨n0, hn0⟩ := key 0 hpos
    obtain ⟨c0, _, hc0, _, _⟩ := hn0 0 f0 hf0
    have hspot : spot = none := by simpa [Addr.add] using World.cell?_spot hc0
    subst hspot
    have hb : b < W.heap.size := by simpa [Addr.add] using World.block_lt_of_cell? W _ hc0
    have hadd : ∀ j, (⟨b, off, none⟩ : Addr).add j = ⟨b, off + j, none⟩ := fun j => by unfold Addr.add; split <;> simp_all
    refine ⟨b, off, rfl, hb, fun i hi => ?_⟩
    obtain ⟨n, hn⟩ := key i hi
    refine ⟨n, fun j f hj => ?_⟩
    obtain ⟨c, y, hc, hy, hg⟩ := hn j f hj
    rw [hadd] at hc
    exact ⟨c, y, by rw [Nat.add_assoc]; exact hc, hy, hg⟩
/-- A field that is a list of integers: its numbers, and how many there are. -/
theorem row_field {H : Type} {enc : TypeId × Value → H} {P : Program} {W : World} {t e : TypeId} {k : IntKind} {c : Value} {y : DataW H × List MemPlace} {fuel bytes : Nat}
    (ht : P.underlying t = some (.slice e)) (he : P.underlying e = some (.int k)) (hc : P.cellsOf e = 1) (hb : P.bytesOf e = bytes) (h : DataW.trod enc P W 0 (fun _ => true) true fuel t [c] = some y) (hw : ∀ g, g ∈ y.1.weights P t → g ≤ reachBytes) :
    ∃ (a : Option Addr) (len cap : Nat) (zs : List Int), c = .slice a len cap ∧ Row k W a len cap zs ∧ (∀ n ∈ zs, (Lit.int k n).wf = true) ∧ len * bytes ≤ 140737488351232 := by
  obtain ⟨a, len, cap, zs, rfl, hr, hwf, hd⟩ := open_row1 ht he hc h
  refine ⟨a, len, cap, zs, rfl, hr, hwf, ?_⟩
  have hle := hr.le
  rcases hd with ⟨_, h0⟩ | ⟨elems, spare, hd, hcap⟩
  · have : len = 0 := by omega
    rw [this]; omega
  · have hx := hw ((elems.length + spare.length) * P.bytesOf e) (by rw [hd]; simp [DataW.weights, ht])
    rw [hb, hcap] at hx
    have : len * bytes ≤ cap * bytes := Nat.mul_le_mul_right _ hle
    simp only [reachBytes] at hx
    omega
/-- What the whole's size says of a part's. -/
theorem weights_of {H : Type} {P : Program} {ts : List TypeId} {ds : List (DataW H)} (h : (DataW.weightsEach P ts ds).all (· ≤ reachBytes) = true) {j : Nat} {t : TypeId} {d : DataW H} (ht : ts[j]? = some t) (hd : ds[j]? = some d) : ∀ g, g ∈ d.weights P t → g ≤ reachBytes := fun g hg => by
  have := List.all_eq_true.1 h _ (DataW.weights_mem_each ht hd g hg)
  simpa using this
end Go.Proofs.Ythhfgcpflclflaa
