/- The document's stack (colophonref07): last, less, higher. -/
import Derived.Test.YthohbiklnknofaaWorks7
import Derived.Test.YthohbiklnknofaaRefb6
import Derived.Laws.ResultCell
namespace Go.Proofs.Ythohbiklnknofaa
open Go.RowKit
set_option linter.unusedVariables false
set_option maxHeartbeats 1000000
set_option maxRecDepth 100000
theorem rentInfo : (Try.prog.info? 72).map (fun i => (i.zero, i.size, i.bytes)) = some (some (.agg #[.int .i64 0, .int .i64 0, .bool false]), 3, 24) := by kernel_rfl
theorem rentCells : Try.prog.cellsOf 72 = 3 := by kernel_rfl
/-- The entries lie from block g on. -/
def WA (w : World) (st : List Ex.Ent) (g n cap : Nat) : Prop := w.ownsRow 0 72 3 (.slice (some ⟨g, 0, none⟩) n cap) n (ents st)
section
variable {w : World} {st : List Ex.Ent} {g n cap : Nat}
theorem WA.lt (h : WA w st g n cap) : g < w.heap.size := (World.ownsRow.lt h g rfl).2
theorem WA.len (h : WA w st g n cap) : st.length = n := by
  have := h.1
  rw [ents_len] at this
  omega
theorem WA.caps (h : WA w st g n cap) : n ≤ cap ∧ cap ≤ maxLen := by
  rcases h.2 with ⟨h0, _⟩ | ⟨g', cap', cur, hv, _, _, h1, h2, _⟩
  · cases h0
  · cases hv; exact ⟨h1, h2⟩
theorem WA.below (h : WA w st g n cap) {w' : World} (hb : Below w.heap.size w w') : WA w' st g n cap := owns_below h hb
theorem WA.cell (h : WA w st g n cap) {j : Nat} (hj : j < n * 3) : w.cell? ⟨g, j, none⟩ = (ents st)[j]? := World.ownsRow.cellAt h j (by omega)
theorem WA.top (h : WA w st g n cap) {m : Nat} (hm : n = m + 1) : w.cell? ⟨g, m * 3, none⟩ = some (.int .i64 (Ex.hd st).lv) ∧ w.cell? ⟨g, m * 3 + 1, none⟩ = some (.int .i64 (Ex.hd st).ov) ∧ w.cell? ⟨g, m * 3 + 2, none⟩ = some (.bool (Ex.hd st).is) := by
  have hl := h.len
  cases hs : st with
  | nil => rw [hs] at hl; simp at hl; omega
  | cons e r =>
    have hr : r.length = m := by rw [hs] at hl; simp at hl; omega
    have ht := ents_top e r
    rw [hr] at ht
    rw [hs] at h
    exact ⟨(h.cell (by omega)).trans ht.1, (h.cell (by omega)).trans ht.2.1, (h.cell (by omega)).trans ht.2.2⟩
theorem WA.pop (h : WA w st g n cap) {m : Nat} (hm : n = m + 1) : WA w st.tail g m cap := by
  have hl := h.len
  cases hs : st with
  | nil => rw [hs] at hl; simp at hl; omega
  | cons e r =>
    have hr : r.length = m := by rw [hs] at hl; simp at hl; omega
    subst hm
    unfold WA at h ⊢
    rw [hs, ents_cons] at h
    show w.ownsRow 0 72 3 (.slice (some ⟨g, 0, none⟩) m cap) m (ents r)
    exact ownsRow_pop (by rw [ents_len, hr]) h
theorem WA.other (h : WA w st g n cap) {p j : Nat} {v : Value} (hne : ¬ g = p) : WA (w.setCell ⟨p, j, none⟩ v) st g n cap := by
  refine ⟨h.1, ?_⟩
  rcases h.2 with ⟨h0, _⟩ | ⟨g2, cap2, cur, hv, hbs, hg, rest⟩
  · cases h0
  · cases hv
    refine .inr ⟨g, cap, cur, rfl, hbs, ?_, rest⟩
    rw [← hg]
    have hne2 : ¬ p = g := fun h => hne h.symm
    unfold World.setCell
    simp [Array.getElem?_modify, hne2]
end
theorem rlast_any {w : World} {st : List Ex.Ent} {g n cap : Nat} (h : WA w st g n cap) (hn : 0 < n) (oi oe va : Int) :
    Calls Try.prog 46 #[.agg #[.slice (some ⟨g, 0, none⟩) n cap, .int .i64 oi, .int .i64 oe, .int .i64 va]] w fun e w' => e = .returned (.agg #[.int .i64 (Ex.hd st).lv, .int .i64 (Ex.hd st).ov, .bool (Ex.hd st).is]) ∧ Below w.heap.size w w' := by
  obtain ⟨m, rfl⟩ : ∃ m, n = m + 1 := ⟨n - 1, by omega⟩
  obtain ⟨t0, t1, t2⟩ := h.top rfl
  have hlt := h.lt
  have hc := h.caps
  unfold maxLen at hc
  have ei : ((m + 1 : Nat) : Int) - 1 = (m : Int) := by omega
  have hmm : (m : Int) < ((m + 1 : Nat) : Int) := by omega
  generalize (Ex.hd st).lv = lv at *
  generalize (Ex.hd st).ov = ov at *
  generalize (Ex.hd st).is = is at *
  have ng : ¬ g = w.heap.size := by omega
  have ng2 : ¬ g = w.heap.size + 1 := by omega
  clear h hn
  go_enter Try.func46, Try.ntmps46
  go_wp2
  refine bodyPost_ret (v := .agg #[.int .i64 lv, .int .i64 ov, .bool is]) (by simp [results, Try.results46, go_sem]) rfl ⟨rfl, ?_⟩
  exact (Below.alloc (Below.alloc (Below.refl _ _) (Nat.le_refl _) _) (by simp) _)
theorem rless_any {w : World} {st : List Ex.Ent} {g n cap : Nat} (h : WA w st g n cap) {m : Nat} (hm : n = m + 1) (oi oe va : Int) :
    Calls Try.prog 62 #[.agg #[.slice (some ⟨g, 0, none⟩) n cap, .int .i64 oi, .int .i64 oe, .int .i64 va]] w fun e w' => e = .returned (.agg #[.slice (some ⟨g, 0, none⟩) m cap, .int .i64 oi, .int .i64 oe, .int .i64 va]) ∧ Below w.heap.size w w' := by
  subst hm
  have hc := h.caps
  unfold maxLen at hc
  have ei : ((m + 1 : Nat) : Int) - 1 = (m : Int) := by omega
  obtain ⟨ii, hii, hy0, hy1, hy2⟩ := info_parts rentInfo
  have hsl := fun w' => run_upto3 Try.underlying66 hii rentCells (some ⟨g, 0, none⟩) (m + 1) cap m (by omega) w'
  clear h hy0 hy1 hy2
  go_enter Try.func62, Try.ntmps62
  go_wp2
  refine bodyPost_ret (v := .agg #[.slice (some ⟨g, 0, none⟩) m cap, .int .i64 oi, .int .i64 oe, .int .i64 va]) (by simp [results, Try.results62, go_sem]) rfl ⟨rfl, ?_⟩
  exact (Below.alloc (Below.alloc (Below.refl _ _) (Nat.le_refl _) _) (by simp) _)
theorem rhigher_any (l : Int) (o : Bool) (w : World) (h0 : 0 ≤ l) (h1 : l ≤ 125) :
    Calls Try.prog 65 #[.int .i64 l, .bool o] w fun e w' => e = .returned (.int .i64 (Ex.nl l o)) ∧ w = w' := by
  obtain ⟨N, hN⟩ : ∃ N, Ex.nl l o = N := ⟨_, rfl⟩
  have HN := hide (show (N = l + 1 ∧ ((l + 1) % 2 == 1) = o) ∨ (N = l + 2 ∧ ((l + 1) % 2 == 1) = !o) from by
    rw [← hN]
    unfold Ex.nl
    cases o with
    | true =>
      by_cases hp : (l + 1) % 2 = 1
      · left; simp [hp]
      · right; simp [hp]
    | false =>
      by_cases hp : (l + 1) % 2 = 0
      · left; simp [hp]
      · have hp2 : (l + 1) % 2 = 1 := by omega
        right; simp [hp2])
  rw [hN]
  clear hN
  rcases HN.out with ⟨rfl, he⟩ | ⟨rfl, he⟩
  · clear HN
    have he2 : (((l + 1) % 2 == 1) == o) = true := by simp [he]
    go_enter Try.func65, Try.ntmps65
    go_wp2_with fail
    go_loopw [5] (fun s5 wr => s5 = .int .i64 (l + 1) ∧ w = wr) (fun _ _ => 0)
    case atStart => exact ⟨rfl, rfl⟩
    case round =>
      obtain ⟨rfl, rfl⟩ := hrel
      go_wp2
      go_ret
      exact ⟨rfl, rfl⟩
  · clear HN
    have he2 : (((l + 1) % 2 == 1) == o) = false := by cases o <;> simp_all
    have he3 : (((l + 1 + 1) % 2 == 1) == o) = true := by
      have hp : ((l + 1 + 1) % 2 == 1) = !((l + 1) % 2 == 1) := by
        by_cases hq : (l + 1) % 2 = 1
        · have : ¬ (l + 1 + 1) % 2 = 1 := by omega
          simp [hq, this]
        · have : (l + 1 + 1) % 2 = 1 := by omega
          simp [hq, this]
      rw [hp, he]; simp
    have e12 : l + 2 = l + 1 + 1 := by omega
    rw [e12]
    clear he e12
    go_enter Try.func65, Try.ntmps65
    go_wp2_with fail
    go_loopw [5] (fun s5 wr => (s5 = .int .i64 (l + 1) ∨ s5 = .int .i64 (l + 1 + 1)) ∧ w = wr) (fun s5 _ => (l + 2 - intOf s5).toNat)
    case atStart => exact ⟨.inl rfl, rfl⟩
    case round =>
      obtain ⟨rfl | rfl, rfl⟩ := hrel
      · go_wp2
        go_roundw
        case rel => exact ⟨.inr (by go_num), trivial⟩
        case measure => simp [intOf]; omega
      · go_wp2
        go_ret
        exact ⟨rfl, rfl⟩
end Go.Proofs.Ythohbiklnknofaa
