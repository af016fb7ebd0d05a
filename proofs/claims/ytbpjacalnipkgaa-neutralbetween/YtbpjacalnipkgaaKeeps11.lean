/- NeutralKeeps: behind the rules all types have a side, and those that had one are as they were. -/
import Derived.Test.YtbpjacalnipkgaaNl
namespace Go.Proofs.Ytbpjacalnipkgaa
open Go.RowKit
set_option linter.unusedVariables false
set_option maxHeartbeats 1000000
set_option maxRecDepth 100000
theorem side_cases (x : Int) : (x = 1) ∨ (¬ x = 1 ∧ x = 2) ∨ (¬ x = 1 ∧ ¬ x = 2 ∧ x = 4) ∨ (¬ x = 1 ∧ ¬ x = 2 ∧ ¬ x = 4 ∧ x = 7) ∨ (¬ x = 1 ∧ ¬ x = 2 ∧ ¬ x = 4 ∧ ¬ x = 7) := by omega
theorem lside_any (x : Int) (w : World) : Calls Try.prog 15 #[.int .i64 x] w fun e w' => e = .returned (.int .i64 (Ne.sd x)) ∧ w = w' := by
  rcases side_cases x with rfl | ⟨h1, rfl⟩ | ⟨h1, h2, rfl⟩ | ⟨h1, h2, h3, rfl⟩ | ⟨h1, h2, h3, h4⟩
  rotate_left 4
  · have e : Ne.sd x = 0 := by simp [Ne.sd, h1, h2, h3, h4]
    rw [e]; clear e
    go_enter Try.func15, Try.ntmps15
    go_wp2
    go_ret
    exact ⟨rfl, rfl⟩
  all_goals
    go_enter Try.func15, Try.ntmps15
    go_wp2
    go_ret
    exact ⟨rfl, rfl⟩
theorem AR_ok {t : List Int} {lv so eo : Int} {L : List Int} {E : Int} (h : Ne.AR t lv so eo L E) : (E = 0 ∧ Ne.Good lv so eo ∧ Ne.Ok t ∧ L = Ne.RS t lv so eo) ∨ ((E != 0) = true ∧ L = []) := by
  rcases h with ⟨_, rfl, rfl⟩ | ⟨_, _, rfl, rfl⟩ | ⟨h1, h2, rfl, rfl⟩
  · exact .inr ⟨rfl, rfl⟩
  · exact .inr ⟨rfl, rfl⟩
  · exact .inl ⟨rfl, h1, h2, rfl⟩
theorem NeutralKeeps_walk (w : World) (a0 : Option Addr) (n0 cap0 : Nat) (t : List Int) (h0 : Row .i64 w a0 n0 cap0 t) (hf0 : ∀ x ∈ t, (Lit.int .i64 x).wf = true) (hs0 : n0 * 8 ≤ 140737488351232) (lv so eo : Int) (hwl : (Lit.int .i64 lv).wf = true) (hws : (Lit.int .i64 so).wf = true) (hwe : (Lit.int .i64 eo).wf = true) :
    Calls Try.prog 5 #[.slice a0 n0 cap0, .agg #[.int .i64 lv, .int .i64 so, .int .i64 eo]] w fun e w' => e = .returned (.bool true) ∧ Below w.heap.size w w' := by
  have HW := hide (fun w' => works11_any w')
  have hn2 : n0 ≤ 17592186044416 := by omega
  obtain ⟨L, E, hA⟩ := Ne.AR_some t lv so eo
  have HR := hide (fun (w' : World) (hk : KO w w') => resolve_any a0 n0 cap0 lv so eo t w' (h0.below hk) hf0 hs0 L E hA)
  have H0 := hide h0
  have HLEN := hide h0.len
  have hc := AR_ok hA
  have HSI := hide (fun x w' => lside_any x w')
  clear hA h0 hf0 hs0 hwl hws hwe
  have HX := hide (show KO w (w.alloc (.cells #[.int .i64 lv, .int .i64 so, .int .i64 eo] 24)) from KO.alloc (KO.refl _) _)
  go_enter Try.func5, Try.ntmps5
  go_wp2_with fail
  refine (HW.out _).mono ?_
  rintro e w1 ⟨rfl, hk1⟩
  have K1 := hide (KO.on HX.out hk1)
  have HR1 := hide (HR.out w1 K1.out)
  have hblk : w1.heap[w.heap.size]? = some (.cells #[.int .i64 lv, .int .i64 so, .int .i64 eo] 24 (0, 0)) := (Below.block hk1 _ (by simp)).trans (World.alloc_heap_new w _)
  have x0 : w1.cell? ⟨w.heap.size, 0, none⟩ = some (.int .i64 lv) := by simp [World.cell?, hblk]
  have x1 : w1.cell? ⟨w.heap.size, 1, none⟩ = some (.int .i64 so) := by simp [World.cell?, hblk]
  have x2 : w1.cell? ⟨w.heap.size, 2, none⟩ = some (.int .i64 eo) := by simp [World.cell?, hblk]
  clear HR hk1 HW hblk HX
  go_wp2_with fail
  refine HR1.out.mono ?_
  rintro e w2 ⟨a1, c1, rfl, hr, hk⟩
  have K2 := hide (KO.on K1.out hk)
  have N2 := hide hr
  have R2 := hide (H0.out.below K2.out)
  clear HR1 hr hk K1 H0 x0 x1 x2
  rcases hc with ⟨rfl, hg, hok, rfl⟩ | ⟨hE, rfl⟩
  · have HLL := hide (show (Ne.RS t lv so eo).length = n0 from by rw [Ne.RS_len, HLEN.out])
    rw [HLL.out] at N2 ⊢
    have HG := hide hg
    clear hg hok
    go_wp2_with fail
    go_loopw [33] (fun v wr => ∃ k : Nat, v = .int .i64 (k : Int) ∧ k ≤ n0 ∧ Hid (∃ q, wr = w2.drewN q)) (fun v _ => n0 - (intOf v).toNat)
    case atStart => exact ⟨0, rfl, Nat.zero_le _, hide ⟨0, rfl⟩⟩
    case round =>
      obtain ⟨k, rfl, hk, hd⟩ := hrel
      by_cases hlt : k < n0
      · have hin : (k : Int) < (n0 : Int) := by omega
        obtain ⟨b, off, rfl, hbl, hc⟩ := (R2.out.below (below_of_drewN hd.out)).cells (by omega)
        have ck := hc k (by rw [HLEN.out]; exact hlt)
        obtain ⟨b1, off1, rfl, hbl1, hc1⟩ := (N2.out.below (below_of_drewN hd.out)).cells (by omega)
        have cx := hc1 k (by rw [HLL.out]; exact hlt)
        have hkp := Ne.keeps t lv so eo HG.out.2.2.1 (show k < t.length by rw [HLEN.out]; exact hlt)
        have HSX := hide (fun w' => HSI.out (t.getD k 0) w')
        have hsc := Ne.sd_cases (t.getD k 0)
        have HM := hide (meas_n0 n0 k hlt)
        have HDD := hide (fun q2 => (show ∃ q, wr.drewN q2 = w2.drewN q from by obtain ⟨q, rfl⟩ := hd.out; exact ⟨_, World.drewN_drewN _ _ _⟩))
        clear hc hc1 hbl hbl1 HSI hd
        generalize (Ne.RS t lv so eo).getD k 0 = y at *
        generalize t.getD k 0 = x at *
        have hcc : (Ne.sd x = 1 ∧ y = x) ∨ (Ne.sd x = 2 ∧ y = x) ∨ (Ne.sd x = 0 ∧ y = 1) ∨ (Ne.sd x = 0 ∧ y = 2) := by
          rcases hsc with h | h | h
          · rcases hkp.2 h with h2 | h2
            · exact .inr (.inr (.inl ⟨h, h2⟩))
            · exact .inr (.inr (.inr ⟨h, h2⟩))
          · exact .inl ⟨h, hkp.1 (by omega)⟩
          · exact .inr (.inl ⟨h, hkp.1 (by omega)⟩)
        clear hkp hsc
        rcases hcc with ⟨hs, rfl⟩ | ⟨hs, rfl⟩ | ⟨hs, rfl⟩ | ⟨hs, rfl⟩
        all_goals
          rw [hs] at HSX
          clear hs
          go_wp2_with fail
          go_quiet (first | (go_at_call 15; refine Calls.quiet_of_same ((HSX.out _).mono fun _ _ ⟨he, hm⟩ => ⟨he, hm.symm⟩)))
          go_wp2
          go_roundw
          case rel => exact ⟨k + 1, by go_num, by omega, hide (HDD.out _)⟩
          case measure => exact HM.out
      · obtain rfl : k = n0 := by omega
        have hne : ¬ ((k : Int) < (k : Int)) := by omega
        have K3 := hide (KO.on K2.out (below_of_drewN hd.out))
        clear hd
        clear hlt
        go_wp2
        go_ret
        exact ⟨rfl, K3.out⟩
  · go_wp2
    go_ret
    exact ⟨rfl, K2.out⟩
end Go.Proofs.Ytbpjacalnipkgaa
