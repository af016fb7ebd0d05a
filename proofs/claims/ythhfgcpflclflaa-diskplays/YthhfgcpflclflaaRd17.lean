/- The document's disk, as it lies in memory: what is read of it, and how it is stopped. -/
import Derived.Test.YthhfgcpflclflaaDk17
import Derived.Test.YthhfgcpflclflaaFoot
import Derived.Test.YthhfgcpflclflaaStr
import Derived.Test.YthhfgcpflclflaaInts
import Derived.Test.YthhfgcpflclflaaVrow
namespace Go.Proofs.Ythhfgcpflclflaa
open Go.RowKit
set_option linter.unusedVariables false
set_option maxHeartbeats 1000000
set_option maxRecDepth 100000
/-- A sector as a text. -/
def sv (s : List Int) : Value := .string (str s)
/-- The cells of writes that wait. -/
def wv (ws : List (Nat × List Int)) : List Value := ws.flatMap fun x => [.int .i64 (x.1 : Int), sv x.2]
theorem wv_len (ws : List (Nat × List Int)) : (wv ws).length = ws.length * 2 := by
  induction ws with
  | nil => rfl
  | cons x ws ih => rw [wv, List.flatMap_cons, List.length_append, ← wv, ih]; simp; omega
theorem wv_app (a b : List (Nat × List Int)) : wv (a ++ b) = wv a ++ wv b := by rw [wv, List.flatMap_append]; rfl
theorem wv_at (ws : List (Nat × List Int)) (k : Nat) (h : k < ws.length) : (wv ws)[k * 2]? = some (.int .i64 ((ws.getD k (0, [])).1 : Int)) ∧ (wv ws)[k * 2 + 1]? = some (sv (ws.getD k (0, [])).2) := by
  induction ws generalizing k with
  | nil => simp at h
  | cons x ws ih =>
    rw [wv, List.flatMap_cons, ← wv]
    cases k with
    | zero => simp
    | succ k =>
      have := ih k (by simpa using h)
      rw [show (k + 1) * 2 = k * 2 + 2 from by omega]
      rw [List.getElem?_append_right (by simp), List.getElem?_append_right (by simp)]
      simpa using this
/-- The document's disk: its block, the block of what lies, what waits. -/
structure RD17 (w : World) (g gl : Nat) (cl : Nat) (vw : Value) (d : Dk.Ds) : Prop where
  disk : w.heap[g]? = some (.cells #[.slice (some ⟨gl, 0, none⟩) d.lies.length cl, vw, .int .i64 (d.steps : Int), .int .i64 d.left] 64 (0, 0))
  lies : w.ownsRow 0 9 1 (.slice (some ⟨gl, 0, none⟩) d.lies.length cl) d.lies.length (d.lies.map sv)
  waits : w.ownsRow 0 71 2 vw d.waits.length (wv d.waits)
/-- What it may write. -/
def RF (g gl : Nat) (vw : Value) (k : Nat) : Prop := k = g ∨ k = gl ∨ vw.ownBlock = some k
section
variable {w w' : World} {g gl cl : Nat} {vw : Value} {d : Dk.Ds}
theorem RD17.cells (h : RD17 w g gl cl vw d) : w.cell? ⟨g, 0, none⟩ = some (.slice (some ⟨gl, 0, none⟩) d.lies.length cl) ∧ w.cell? ⟨g, 1, none⟩ = some vw ∧ w.cell? ⟨g, 2, none⟩ = some (.int .i64 (d.steps : Int)) ∧ w.cell? ⟨g, 3, none⟩ = some (.int .i64 d.left) := by
  simp [World.cell?, h.disk]
theorem RD17.fz (h : RD17 w g gl cl vw d) (j : Nat) : w.frozen? ⟨g, j, none⟩ = false := by simp [World.frozen?, h.disk]
/-- What others do leaves it as it is. -/
theorem RD17.keep (h : RD17 w g gl cl vw d) {F : Nat → Prop} (hm : Mod F w w') (hF : ∀ k, RF g gl vw k → ¬ F k) : RD17 w' g gl cl vw d :=
  ⟨(hm.block g (Array.getElem?_eq_some_iff.1 h.disk).1 (hF g (.inl rfl))).trans h.disk, hm.owns h.lies fun k hk => hF k (.inr (.inl (by cases hk; rfl))), hm.owns h.waits fun k hk => hF k (.inr (.inr hk))⟩
theorem RD17.ko (h : RD17 w g gl cl vw d) (hk : KO w w') : RD17 w' g gl cl vw d := h.keep (F := fun _ => False) (Mod.of_ko hk) fun _ _ q => q
/-- A sector. -/
theorem RD17.lie (h : RD17 w g gl cl vw d) {n : Nat} (hn : n < d.lies.length) : w.cell? ⟨gl, n, none⟩ = some (sv (d.lies.getD n [])) := by
  rw [h.lies.cellAt n (by omega), List.getElem?_map, List.getElem?_eq_getElem hn]
  simp [List.getD, List.getElem?_eq_getElem hn]
/-- A write that waits. -/
theorem RD17.wait (h : RD17 w g gl cl vw d) (h0 : 0 < d.waits.length) : ∃ gw cw, vw = .slice (some ⟨gw, 0, none⟩) d.waits.length cw ∧ ∀ k, k < d.waits.length → w.cell? ⟨gw, k * 2, none⟩ = some (.int .i64 ((d.waits.getD k (0, [])).1 : Int)) ∧ w.cell? ⟨gw, k * 2 + 1, none⟩ = some (sv (d.waits.getD k (0, [])).2) := by
  obtain ⟨gw, cw, rfl, _, hle⟩ := owns_pos h.waits h0
  refine ⟨gw, cw, rfl, fun k hk => ?_⟩
  have := wv_at d.waits k hk
  exact ⟨(h.waits.cellAt (k * 2) (by omega)).trans this.1, (h.waits.cellAt (k * 2 + 1) (by omega)).trans this.2⟩
theorem RD17.form (h : RD17 w g gl cl vw d) : ∃ aw cw, vw = .slice aw d.waits.length cw ∧ d.waits.length ≤ cw := owns_form h.waits
end
theorem ris_any (w : World) (g gl cl : Nat) (vw : Value) (d : Dk.Ds) (n : Int) (h : RD17 w g gl cl vw d) (r : Bool) (hr : r = true ↔ Dk.has d n) :
    Calls Try.prog 41 #[.pointer (some ⟨g, 0, none⟩), .int .i64 n] w fun e w' => e = .returned (.bool r) ∧ w = w' := by
  obtain ⟨c0, _, _, _⟩ := h.cells
  unfold Dk.has at hr
  clear h
  generalize d.lies.length = m at *
  by_cases h1 : 0 ≤ n
  · by_cases h2 : n < (m : Int)
    · obtain rfl : r = true := hr.2 ⟨h1, h2⟩
      clear hr
      go_enter Try.func41, Try.ntmps41
      go_wp2
      go_ret
      exact ⟨rfl, rfl⟩
    · obtain rfl : r = false := by rw [← Bool.not_eq_true, hr]; omega
      clear hr
      go_enter Try.func41, Try.ntmps41
      go_wp2
      go_ret
      exact ⟨rfl, rfl⟩
  · obtain rfl : r = false := by rw [← Bool.not_eq_true, hr]; omega
    clear hr
    go_enter Try.func41, Try.ntmps41
    go_wp2
    go_ret
    exact ⟨rfl, rfl⟩
theorem rread_any (w : World) (g gl cl : Nat) (vw : Value) (d : Dk.Ds) (n : Int) (h : RD17 w g gl cl vw d) :
    Calls Try.prog 32 #[.pointer (some ⟨g, 0, none⟩), .int .i64 n] w fun e w' => e = .returned (.tuple #[.string (str (Dk.RD d n).1), .int .i64 (Dk.RD d n).2]) ∧ w = w' := by
  have HI := hide (fun r hr => ris_any w g gl cl vw d n h r hr)
  have e0 : str [] = ⟨#[]⟩ := rfl
  by_cases hn : Dk.has d n
  · have HI1 := hide (HI.out true ⟨fun _ => hn, fun _ => rfl⟩)
    by_cases hl : d.left = 0
    · have hRD : Dk.RD d n = ([], 170) := by unfold Dk.RD; rw [if_neg (by simpa using hn), if_pos hl]
      obtain ⟨_, _, _, c3⟩ := h.cells
      rw [hl] at c3
      rw [hRD]
      clear h HI hn hl hRD
      go_enter Try.func32, Try.ntmps32
      go_wp2_with fail
      refine HI1.out.mono ?_
      rintro e w1 ⟨rfl, rfl⟩
      go_wp2
      go_ret2
      exact ⟨rfl, rfl⟩
    · have hRD : Dk.RD d n = (Dk.rw' d.waits n.toNat (d.lies.getD n.toNat []) d.waits.length, 0) := by unfold Dk.RD; rw [if_neg (by simpa using hn), if_neg hl]
      obtain ⟨c0, c1, _, c3⟩ := h.cells
      obtain ⟨k, rfl⟩ : ∃ k : Nat, n = (k : Int) := ⟨n.toNat, by unfold Dk.has at hn; omega⟩
      have hk : k < d.lies.length := by unfold Dk.has at hn; omega
      have hki : (k : Int) < (d.lies.length : Int) := by omega
      have c4 := h.lie hk
      unfold sv at c4
      obtain ⟨aw, cw, hvw, hlw⟩ := h.form
      have HW := hide (fun h0 => h.wait h0)
      have hlb : (d.left == 0) = false := beq_eq_false_iff_ne.2 hl
      rw [hRD, Int.toNat_natCast]
      have hcw : d.waits.length ≤ 2 ^ 63 - 1 := by
        rcases h.waits.2 with ⟨_, h0⟩ | ⟨_, cap, _, _, _, _, hle, hm, _⟩
        · omega
        · unfold maxLen at hm; omega
      have HR0 := hide (show Dk.rw' d.waits k (d.lies.getD k []) 0 = d.lies.getD k [] from rfl)
      have HR1 := hide (fun j => show Dk.rw' d.waits k (d.lies.getD k []) (j + 1) = if (d.waits.getD j (0, [])).1 = k then (d.waits.getD j (0, [])).2 else Dk.rw' d.waits k (d.lies.getD k []) j from rfl)
      subst hvw
      obtain ⟨m, hm⟩ : ∃ m, d.waits.length = m := ⟨_, rfl⟩
      rw [hm] at c1 hlw hcw HW ⊢
      clear HI h hn hRD hl hm
      generalize d.lies.length = nl at *
      generalize d.lies.getD k [] = s0 at *
      generalize d.left = lf at *
      obtain ⟨q, hq⟩ : ∃ q, Dk.rw' d.waits k s0 = q := ⟨_, rfl⟩
      rw [hq] at HR0 HR1 ⊢
      clear hq
      go_enter Try.func32, Try.ntmps32
      go_wp2_with fail
      refine HI1.out.mono ?_
      rintro e w1 ⟨rfl, rfl⟩
      go_wp2
      go_loop [6, 7] (fun s6 s7 => ∃ j : Nat, s7 = .int .i64 (j : Int) ∧ j ≤ m ∧ s6 = .string (str (q j))) (fun _ s7 => m - (intOf s7).toNat)
      case atStart => exact ⟨0, rfl, Nat.zero_le _, by rw [HR0.out]⟩
      case round =>
        obtain ⟨j, rfl, hj, rfl⟩ := hrel
        by_cases hlt : j < m
        · have hin : (j : Int) < (m : Int) := by omega
          obtain ⟨gw, cw', e1, hc⟩ := HW.out (by omega)
          simp only [Value.slice.injEq] at e1
          obtain ⟨rfl, _, rfl⟩ := e1
          obtain ⟨x0, x1⟩ := hc j hlt
          unfold sv at x1
          have hst := HR1.out j
          clear hc
          generalize (d.waits.getD j (0, [])).1 = y at *
          generalize (d.waits.getD j (0, [])).2 = z at *
          by_cases hy : y = k
          · rw [if_pos hy] at hst
            have HS := hide hst
            subst hy
            have hyy : ((y : Int) == (y : Int)) = true := by simp
            clear hst
            go_wp2
            go_round
            case rel => exact ⟨j + 1, by go_num, by omega, by rw [HS.out]⟩
            case measure => simp [intOf]; omega
          · rw [if_neg hy] at hst
            have HS := hide hst
            have hyy : ((y : Int) == (k : Int)) = false := beq_eq_false_iff_ne.2 (by omega)
            clear hst
            go_wp2
            go_round
            case rel => exact ⟨j + 1, by go_num, by omega, by rw [HS.out]⟩
            case measure => simp [intOf]; omega
        · obtain rfl : m = j := by omega
          have hne : ¬ (m : Int) < (m : Int) := by omega
          go_wp2
          go_ret2
          exact ⟨rfl, rfl⟩
  · have HI1 := hide (HI.out false ⟨fun q => (by cases q), fun q => absurd q hn⟩)
    have hRD : Dk.RD d n = ([], 4) := by unfold Dk.RD; rw [if_pos hn]
    rw [hRD]
    clear h HI hn hRD
    go_enter Try.func32, Try.ntmps32
    go_wp2_with fail
    refine HI1.out.mono ?_
    rintro e w1 ⟨rfl, rfl⟩
    go_wp2
    go_ret2
    exact ⟨rfl, rfl⟩
end Go.Proofs.Ythhfgcpflclflaa
