/- The document's disk: Flush. -/
import Derived.Test.YthhfgcpflclflaaRw17
import Derived.Deep.QuietTactic
import Derived.BigQuiet
import Derived.Deep.RegionHeld3
namespace Go.Proofs.Ythhfgcpflclflaa
open Go.RowKit
set_option linter.unusedVariables false
set_option maxHeartbeats 1000000
set_option maxRecDepth 100000
section
variable {w : World} {g gl cl : Nat} {vw : Value} {d : Dk.Ds}
theorem Mod.two (w : World) (g gl j : Nat) (v : Value) : Mod (fun k => k = g ∨ k = gl) w (w.setCell ⟨gl, j, none⟩ v) := (Mod.refl (fun k => k = g ∨ k = gl) w).set (p := ⟨gl, j, none⟩) (.inl (.inr rfl)) v
theorem RD17.lies' (h : RD17 w g gl cl vw d) (n : Nat) (s : List Int) : RD17 (w.setCell ⟨gl, n, none⟩ (sv s)) g gl cl vw { d with lies := d.lies.set n s } := by
  have hm := Mod.one w gl n (sv s)
  refine ⟨?_, ?_, hm.owns h.waits fun k hk q => h.ne3 (by rw [hk, q])⟩
  · show _ = some (Obj.cells #[.slice (some ⟨gl, 0, none⟩) (d.lies.set n s).length cl, vw, _, _] _ _)
    rw [List.length_set]
    exact (hm.block g (Array.getElem?_eq_some_iff.1 h.disk).1 (fun q => h.ne1 q.symm)).trans h.disk
  · show World.ownsRow _ 0 _ 1 (.slice (some ⟨gl, 0, none⟩) (d.lies.set n s).length cl) (d.lies.set n s).length ((d.lies.set n s).map sv)
    rw [List.length_set]
    exact vown_set h.lies n s
theorem RD17.fzl (h : RD17 w g gl cl vw d) (j : Nat) : w.frozen? ⟨gl, j, none⟩ = false := h.lies.frozenAt j
theorem RD17.drewN (h : RD17 w g gl cl vw d) (q : Nat) : RD17 (w.drewN q) g gl cl vw d := h.ko (below_drewN w q)
end
theorem rflush_any (w : World) (g gl cl : Nat) (vw : Value) (d : Dk.Ds) (h : RD17 w g gl cl vw d) (hw : Dk.Wf d) (hs : d.steps ≤ 4611686018427387904) (hlf : d.left ≤ 9223372036854775807 ∧ -1 ≤ d.left) :
    Calls Try.prog 27 #[.pointer (some ⟨g, 0, none⟩)] w fun e w' => e = .returned (.int .i64 (Dk.FL d).2) ∧ ∃ vw', RD17 w' g gl cl vw' (Dk.FL d).1 ∧ Mod (fun k => k = g ∨ k = gl) w w' ∧ ∀ k, vw'.ownBlock = some k → vw.ownBlock = some k := by
  obtain ⟨c0, c1, _, c3⟩ := h.cells
  by_cases h0 : d.left = 0
  · have e : Dk.FL d = (d, 170) := by unfold Dk.FL; rw [if_pos h0]
    rw [h0] at c3
    rw [e]
    have H := hide h
    clear h h0 e hs hlf hw
    go_enter Try.func27, Try.ntmps27
    go_wp2
    go_ret
    exact ⟨rfl, _, H.out, Mod.refl _ _, fun k hk => hk⟩
  · have e : Dk.FL d = (Dk.tick { d with lies := Dk.fw d.waits d.lies d.waits.length, waits := [] }, 0) := by unfold Dk.FL; rw [if_neg h0]
    have hlb : (d.left == 0) = false := beq_eq_false_iff_ne.2 h0
    obtain ⟨aw, cw, hvw, hlw⟩ := h.form
    have hcw : cw ≤ 2 ^ 63 - 1 := by
      rcases h.waits.2 with ⟨q, _⟩ | ⟨_, cap, _, q, _, _, _, hm, _⟩
      · rw [hvw] at q
        simp only [Value.slice.injEq] at q
        omega
      · rw [hvw] at q
        simp only [Value.slice.injEq] at q
        unfold maxLen at hm; omega
    have HIN := hide (fun k (hk : k < d.waits.length) => (hw.waits _ (Dk.wait_at hk)).1)
    rw [e]
    have H := hide h
    have HS := hide hs
    have HLF := hide hlf
    have HFL := hide (fun k => Dk.fw_len (ws := d.waits) (ls := d.lies) k)
    have HFS := hide (fun k => show Dk.fw d.waits d.lies (k + 1) = (Dk.fw d.waits d.lies k).set (d.waits.getD k (0, [])).1 (d.waits.getD k (0, [])).2 from rfl)
    have HF0 := hide (show Dk.fw d.waits d.lies 0 = d.lies from rfl)
    obtain ⟨F, hF⟩ : ∃ F, Dk.fw d.waits d.lies = F := ⟨_, rfl⟩
    rw [hF] at HFL HFS HF0 ⊢
    subst hvw
    obtain ⟨m, hm⟩ : ∃ m, d.waits.length = m := ⟨_, rfl⟩
    have HM := hide hm
    rw [hm] at c1 hlw HIN
    obtain ⟨lf, hlf'⟩ : ∃ lf, d.left = lf := ⟨_, rfl⟩
    rw [hlf'] at c3 hlb
    obtain ⟨nl, hnl⟩ : ∃ nl, d.lies.length = nl := ⟨_, rfl⟩
    rw [hnl] at c0 HIN HFL
    have HNL := hide hnl
    clear h h0 e hs hlf hw hF hm hlf' hnl
    go_enter Try.func27, Try.ntmps27
    go_wp2
    go_loopw [3] (fun s3 W => ∃ k : Nat, s3 = .int .i64 (k : Int) ∧ k ≤ m ∧ Hid (RD17 W g gl cl (.slice aw d.waits.length cw) { d with lies := F k }) ∧ Hid (Mod (fun k => k = g ∨ k = gl) w W)) (fun s3 _ => m - (intOf s3).toNat)
    case atStart => exact ⟨0, rfl, Nat.zero_le _, hide (by rw [HF0.out]; exact H.out), hide (Mod.refl _ _)⟩
    case round =>
      obtain ⟨k, rfl, hk, hr, hmo⟩ := hrel
      clear c0 c1 c3
      obtain ⟨c0, c1, _, c3⟩ := hr.out.cells
      simp only [HFL.out, HM.out] at c0 c1
      by_cases hlt : k < m
      · have hin : (k : Int) < (m : Int) := by omega
        obtain ⟨gw, cw2, e1, hc⟩ := hr.out.wait (by show 0 < d.waits.length; rw [HM.out]; omega)
        simp only [Value.slice.injEq] at e1
        obtain ⟨rfl, _, rfl⟩ := e1
        obtain ⟨x0, x1⟩ := hc k (by show k < d.waits.length; rw [HM.out]; exact hlt)
        have hyn := HIN.out k hlt
        have hst := HFS.out k
        clear hc
        generalize hy : (d.waits.getD k (0, [])).1 = y at *
        generalize hz : (d.waits.getD k (0, [])).2 = z at *
        have hyi : (y : Int) < (nl : Int) := by omega
        have fl : (wr.drew).frozen? ⟨gl, y, none⟩ = false := (hr.out.drewN 1).fzl y
        have cl0 : (wr.drew).cell? ⟨gl, y, none⟩ = some (sv ((F k).getD y [])) := (hr.out.drewN 1).lie (n := y) (by show y < (F k).length; rw [HFL.out]; exact hyn)
        have hb := (Array.getElem?_eq_some_iff.1 hr.out.disk).1
        have hS0 : Mod (fun q => q = gl) wr wr.drew := Mod.of_ko (below_drewN wr 1)
        have hcg : ∀ w', Mod (fun q => q = gl) wr w' → w'.cell? ⟨g, 0, none⟩ = some (.slice (some ⟨gl, 0, none⟩) nl cl) := fun w' hm => hm.cell (fun q => hr.out.ne1 q.symm) c0
        have hcw : ∀ w', Mod (fun q => q = gl) wr w' → w'.cell? ⟨g, 1, none⟩ = some (.slice (some ⟨gw, 0, none⟩) m cw) := fun w' hm => hm.cell (fun q => hr.out.ne1 q.symm) c1
        have hgw : ¬ gw = gl := fun q => hr.out.ne3 (by rw [← q]; rfl)
        have hx0 : ∀ w', Mod (fun q => q = gl) wr w' → w'.cell? ⟨gw, k * 2, none⟩ = some (.int .i64 (y : Int)) := fun w' hm => hm.cell hgw x0
        have hx1 : ∀ w', Mod (fun q => q = gl) wr w' → w'.cell? ⟨gw, k * 2 + 1, none⟩ = some (.string (str z)) := fun w' hm => hm.cell hgw x1
        have HN : Hid (RD17 (wr.setCell ⟨gl, y, none⟩ (sv z)).drew g gl cl (.slice (some ⟨gw, 0, none⟩) d.waits.length cw) { d with lies := (F k).set y z }) := hide ((hr.out.lies' y z).drewN 1)
        have HMO : Hid (Mod (fun k => k = g ∨ k = gl) w (wr.setCell ⟨gl, y, none⟩ (sv z)).drew) := hide ((hmo.out.trans (Mod.two wr g gl y (sv z)) fun i q => .inl q).trans (Mod.of_ko (F := fun _ => False) (below_drewN _ 1)) fun i q => q.elim)
        have HST := hide hst
        clear hst hr hmo c0 c3 x0 x1
        unfold sv at HN HMO
        generalize sv ((F k).getD y []) = s9 at *
        generalize str z = sz at *
        go_wp2_with fail
        clear c1
        refine wp_region_noPanic ?_
        go_region_held (fun w' => Mod (fun q => q = gl) wr w') (first | assumption | exact hS0.set (.inl rfl) _)
          (first | fail)
        all_goals (
          refine NoPanic.normal ?_
          clear hcg hcw hx0 hx1 fl cl0 hS0
          go_wp2
          go_roundw
          case rel => exact ⟨k + 1, by go_num, by omega, by rw [HST.out]; exact HN, HMO⟩
          case measure => simp [intOf]; omega)
      · obtain rfl : m = k := by omega
        have hne : ¬ (m : Int) < (m : Int) := by omega
        have f1 := hr.out.fz 1
        have h4 := hr.out.waits' (v2 := .slice none 0 0) (ws := []) (World.ownsRow_nil _ _ _ _)
        have HSP := hide (rstep_any _ g gl cl _ _ h4 HS.out HLF.out)
        have HM4 := hide (hmo.out.trans (F := fun k => k = g ∨ k = gl) (Mod.one wr g 1 (.slice none 0 0)) fun i q => .inl (.inl q))
        clear hr hmo h4 c0 c3
        go_wp2_with fail
        refine HSP.out.mono ?_
        rintro e w5 ⟨⟨v, rfl⟩, hr5, hm5⟩
        have HR5 := hide hr5
        have HM5 := hide (HM4.out.trans hm5 fun i q => .inl (.inl q))
        clear hr5 hm5 HSP
        go_wp2
        go_ret
        refine ⟨rfl, .slice none 0 0, ?_, HM5.out, fun k hk => by cases hk⟩
        rw [HM.out]
        exact HR5.out
end Go.Proofs.Ythhfgcpflclflaa
