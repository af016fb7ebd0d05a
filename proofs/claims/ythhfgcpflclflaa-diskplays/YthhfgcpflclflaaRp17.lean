/- The document's disk: Spoil. -/
import Derived.Test.YthhfgcpflclflaaRf17
import Derived.Test.YthhfgcpflclflaaByt
namespace Go.Proofs.Ythhfgcpflclflaa
open Go.RowKit
set_option linter.unusedVariables false
set_option maxHeartbeats 1000000
set_option maxRecDepth 100000
theorem rspoil_any (w : World) (g gl cl : Nat) (vw : Value) (d : Dk.Ds) (n a b : Int) (h : RD17 w g gl cl vw d) (hw : Dk.Wf d) (hb : 0 ≤ b ∧ b ≤ 255) :
    Calls Try.prog 29 #[.pointer (some ⟨g, 0, none⟩), .int .i64 n, .int .i64 a, .int .u8 b] w fun e w' => e = .returned (.int .i64 (Dk.SP d n a b).2) ∧ RD17 w' g gl cl vw (Dk.SP d n a b).1 ∧ Mod (fun k => k = gl) w w' := by
  have HI := hide (fun r hr => ris_any w g gl cl vw d n h r hr)
  by_cases hn : Dk.has d n
  · have HI1 := hide (HI.out true ⟨fun _ => hn, fun _ => rfl⟩)
    by_cases h1 : a < 0
    · have e : Dk.SP d n a b = (d, 4) := by unfold Dk.SP; rw [if_pos (.inr (.inl h1))]
      rw [e]
      have H := hide h
      clear h HI hn e hw
      go_enter Try.func29, Try.ntmps29
      go_wp2_with fail
      refine HI1.out.mono ?_
      rintro e w1 ⟨rfl, rfl⟩
      go_wp2
      go_ret
      exact ⟨rfl, H.out, Mod.refl _ _⟩
    · by_cases h2 : 64 ≤ a
      · have e : Dk.SP d n a b = (d, 4) := by unfold Dk.SP; rw [if_pos (.inr (.inr h2))]
        rw [e]
        have H := hide h
        clear h HI hn e hw
        go_enter Try.func29, Try.ntmps29
        go_wp2_with fail
        refine HI1.out.mono ?_
        rintro e w1 ⟨rfl, rfl⟩
        go_wp2
        go_ret
        exact ⟨rfl, H.out, Mod.refl _ _⟩
      · have e : Dk.SP d n a b = ({ d with lies := d.lies.set n.toNat ((d.lies.getD n.toNat []).set a.toNat b) }, 0) := by
          unfold Dk.SP; rw [if_neg (by rintro (q | q | q); exact q hn; exact h1 q; exact h2 q)]
        obtain ⟨k, rfl⟩ : ∃ k : Nat, n = (k : Int) := ⟨n.toNat, by unfold Dk.has at hn; omega⟩
        obtain ⟨j, rfl⟩ : ∃ j : Nat, a = (j : Int) := ⟨a.toNat, by omega⟩
        have hk : k < d.lies.length := by unfold Dk.has at hn; omega
        have hki : (k : Int) < (d.lies.length : Int) := by omega
        have hj : j < 64 := by omega
        have hsec := hw.lies _ (Dk.lie_at (ls := d.lies) hk)
        obtain ⟨c0, _, _, _⟩ := h.cells
        have cs := h.lie hk
        rw [e, Int.toNat_natCast, Int.toNat_natCast]
        obtain ⟨s, hs⟩ : ∃ s, d.lies.getD k [] = s := ⟨_, rfl⟩
        rw [hs] at cs hsec ⊢
        obtain ⟨cap, w2, hconv, hB⟩ := run_bytes (P := Try.prog) w (zs := s) hsec.2 Try.underlying33 Try.underlying5 Try.underlying9
        rw [hsec.1] at hconv
        have cB := hB.cells j (by rw [hsec.1]; exact hj)
        have fB := hB.fz j (by rw [hsec.1]; exact hj)
        have hB3 := hB.set j b
        have hs3 : Bytes (s.set j b) := fun x hx => by
          rcases Dk.set_mem hx with q | q
          · exact hsec.2 x q
          · rw [q]; exact hb
        have hl3 : (s.set j b).length = 64 := by rw [List.length_set]; exact hsec.1
        have hjj : (j : Int) < 64 := by omega
        obtain ⟨w3, hw3⟩ : ∃ w3, w2.setCell ⟨w.heap.size, j, none⟩ (.int .u8 b) = w3 := ⟨_, rfl⟩
        rw [hw3] at hB3
        have hko : KO w w3 := hB3.bel
        have hr3 := h.ko hko
        have fl : (w3.drew).frozen? ⟨gl, k, none⟩ = false := (hr3.drewN 1).fzl k
        have cl0 : (w3.drew).cell? ⟨gl, k, none⟩ = some (sv s) := by rw [← hs]; exact (hr3.drewN 1).lie (n := k) hk
        have hS0 : Mod (fun q => q = gl) w3 w3.drew := Mod.of_ko (below_drewN w3 1)
        have hcg : ∀ w', Mod (fun q => q = gl) w3 w' → w'.cell? ⟨g, 0, none⟩ = some (.slice (some ⟨gl, 0, none⟩) d.lies.length cl) := fun w' hm => hm.cell (fun q => hr3.ne1 q.symm) hr3.cells.1
        have hgl : gl < w.heap.size := World.block_lt_of_cell? w _ cs
        have hc2 : ∀ w', Mod (fun q => q = gl) w3 w' → (convert 33 9 (.slice (some ⟨w.heap.size, 0, none⟩) 64 cap)).run Try.prog w' = .ok (.string (str (s.set j b))) w' := fun w' hm => by
          have := run_back (P := Try.prog) (cap := cap) (fun i hi => hm.cell (by show ¬ w.heap.size = gl; omega) (hB3.cells i hi)) hs3 Try.underlying33 Try.underlying5 Try.underlying9
          rw [hl3] at this
          exact this
        have HN : Hid (RD17 (w3.setCell ⟨gl, k, none⟩ (sv (s.set j b))).drew g gl cl vw { d with lies := d.lies.set k (s.set j b) }) := hide ((hr3.lies' k (s.set j b)).drewN 1)
        have HMO : Hid (Mod (fun q => q = gl) w (w3.setCell ⟨gl, k, none⟩ (sv (s.set j b))).drew) := hide (((Mod.of_ko hko).trans (Mod.one w3 gl k _) fun i q => .inl q).trans (Mod.of_ko (F := fun _ => False) (below_drewN _ 1)) fun i q => q.elim)
        unfold sv at HN HMO cs cl0
        clear hB hB3 hko hr3 hs3 hl3 hsec hw h HI e hs
        generalize str s = sx at *
        generalize str (s.set j b) = sy at *
        generalize w.heap.size = gb at *
        generalize d.lies.length = nl at *
        go_enter Try.func29, Try.ntmps29
        go_wp2_with fail
        refine HI1.out.mono ?_
        rintro e w1 ⟨rfl, rfl⟩
        go_wp2_with fail
        clear c0
        refine wp_region_noPanic ?_
        go_region_held (fun w' => Mod (fun q => q = gl) w3 w') (first | assumption | exact hS0.set (.inl rfl) _)
          (first | fail)
        all_goals (
          refine NoPanic.normal ?_
          clear hcg hc2 fl cl0 hS0
          go_wp2
          go_ret
          exact ⟨rfl, HN.out, HMO.out⟩)
  · have HI1 := hide (HI.out false ⟨fun q => (by cases q), fun q => absurd q hn⟩)
    have e : Dk.SP d n a b = (d, 4) := by unfold Dk.SP; rw [if_pos (.inl hn)]
    rw [e]
    have H := hide h
    clear h HI hn e hw
    go_enter Try.func29, Try.ntmps29
    go_wp2_with fail
    refine HI1.out.mono ?_
    rintro e w1 ⟨rfl, rfl⟩
    go_wp2
    go_ret
    exact ⟨rfl, H.out, Mod.refl _ _⟩
end Go.Proofs.Ythhfgcpflclflaa
