/- The document's ahead and Formed. -/
import Derived.Test.YthohbiklnknofaaRe
namespace Go.Proofs.Ythohbiklnknofaa
open Go.RowKit
set_option linter.unusedVariables false
set_option maxHeartbeats 2000000
set_option maxRecDepth 100000
theorem rformed_any (ao : Option Addr) (n cap : Nat) (c : List Int) (w : World) (h : Row .i64 w ao n cap c) (hn : n ≤ 300) (F : Bool) (hF : F = true ↔ Ex.Formed c) :
    Calls Try.prog 42 #[.slice ao n cap] w fun e w' => e = .returned (.bool F) ∧ w = w' := by
  have H := hide h
  have HL := hide h.len
  have HF := hide hF
  clear h hF
  go_enter Try.func42, Try.ntmps42
  go_wp2
  go_loopw [3] (fun s3 wr => ∃ k : Nat, k ≤ n ∧ s3 = .int .i64 (k : Int) ∧ Hid (∀ i, i < k → 1 ≤ c.getD i 0 ∧ c.getD i 0 ≤ 23 ∧ (c.getD i 0 = 11 → i + 1 = n)) ∧ w = wr) (fun s3 _ => n - (intOf s3).toNat)
  case atStart => exact ⟨0, Nat.zero_le _, rfl, hide (fun i hi => by omega), rfl⟩
  case round =>
    obtain ⟨k, hk, rfl, hall, rfl⟩ := hrel
    by_cases hlt : k < n
    · obtain ⟨b, off, rfl, hbl, hc⟩ := H.out.cells (by omega)
      have ck : w.cell? ⟨b, off + k, none⟩ = some (.int .i64 (c.getD k 0)) := hc k (by rw [HL.out]; exact hlt)
      have hin : (k : Int) < (n : Int) := by omega
      have HNO := hide (fun (hbad : ¬ (1 ≤ c.getD k 0 ∧ c.getD k 0 ≤ 23 ∧ (c.getD k 0 = 11 → k + 1 = n))) => (show F = false from by
        cases hf : F with
        | false => rfl
        | true =>
          have h1 := HF.out.1 hf k (by rw [HL.out]; exact hlt)
          rw [HL.out] at h1
          exact absurd h1 hbad))
      have HYES := hide (fun (hgood : 1 ≤ c.getD k 0 ∧ c.getD k 0 ≤ 23 ∧ (c.getD k 0 = 11 → k + 1 = n)) => (show ∀ i, i < k + 1 → 1 ≤ c.getD i 0 ∧ c.getD i 0 ≤ 23 ∧ (c.getD i 0 = 11 → i + 1 = n) from fun i hi => by
        by_cases hik : i = k
        · subst hik; exact hgood
        · exact hall.out i (by omega)))
      generalize c.getD k 0 = x at *
      clear hc hall
      by_cases h1 : x < 1
      · have HE := hide (HNO.out (fun h => by omega))
        clear HNO HYES
        go_wp2
        go_ret
        exact ⟨ret_bool HE.out.symm, rfl⟩
      · by_cases h2 : 23 < x
        · have HE := hide (HNO.out (fun h => by omega))
          clear HNO HYES
          go_wp2
          go_ret
          exact ⟨ret_bool HE.out.symm, rfl⟩
        · by_cases h3 : x = 11
          · by_cases h4 : (k : Int) < (n : Int) - 1
            · have HE := hide (HNO.out (fun h => by have := h.2.2 h3; omega))
              clear HNO HYES
              subst h3
              go_wp2
              go_ret
              exact ⟨ret_bool HE.out.symm, rfl⟩
            · have HE := hide (HYES.out ⟨by omega, by omega, fun _ => by omega⟩)
              clear HNO HYES
              subst h3
              go_wp2
              go_roundw
              case rel => exact ⟨k + 1, by omega, by go_num, HE, trivial⟩
              case measure => simp [intOf]; omega
          · have HE := hide (HYES.out ⟨by omega, by omega, fun h => absurd h h3⟩)
            have h3' : (x == 11) = false := beq_false_of_ne h3
            clear HNO HYES
            go_wp2
            go_roundw
            case rel => exact ⟨k + 1, by omega, by go_num, HE, trivial⟩
            case measure => simp [intOf]; omega
    · obtain rfl : k = n := by omega
      have hne : ¬ ((k : Int) < (k : Int)) := by omega
      have HE := hide (show F = true from HF.out.2 (fun i hi => by rw [HL.out] at hi ⊢; exact hall.out i hi))
      clear hall
      go_wp2
      go_ret
      exact ⟨ret_bool HE.out.symm, rfl⟩
/-- What ahead keeps: the Way at p, the result at q. -/
def Hd (w wr : World) (p q : Nat) (S : Ex.St) : Prop := ∃ g n cap, WB w wr p q g n cap (S.oi : Int) (S.oe : Int) (S.va : Int) ∧ WA wr S.st g n cap
theorem hd_begin (w : World) (b : Int) : Hd w (((w.alloc (.cells #[.slice none 0 0, .int .i64 0, .int .i64 0, .int .i64 0] 68)).alloc (.cells #[.int .i64 b, .int .i64 0, .bool false] 72)).alloc (.cells #[.slice (some ⟨w.heap.size + 1, 0, none⟩) 1 1, .int .i64 0, .int .i64 0, .int .i64 0] 68)) (w.heap.size + 2) w.heap.size (Ex.s0 b) := by
  obtain ⟨V, hV⟩ : ∃ V, w.alloc (.cells #[.slice none 0 0, .int .i64 0, .int .i64 0, .int .i64 0] 68) = V := ⟨_, rfl⟩
  have hs : V.heap.size = w.heap.size + 1 := by rw [← hV]; simp
  have h0 : V.heap[w.heap.size]? = some (.cells #[.slice none 0 0, .int .i64 0, .int .i64 0, .int .i64 0] 68 (0, 0)) := by rw [← hV]; exact heap_alloc_last w _
  have hbV : Below w.heap.size w V := by rw [← hV]; exact Below.alloc (Below.refl _ _) (Nat.le_refl _) _
  rw [hV]
  have hbb : Below V.heap.size V ((V.alloc (.cells #[.int .i64 b, .int .i64 0, .bool false] 72)).alloc (.cells #[.slice (some ⟨w.heap.size + 1, 0, none⟩) 1 1, .int .i64 0, .int .i64 0, .int .i64 0] 68)) := Below.alloc (Below.alloc (Below.refl _ _) (Nat.le_refl _) _) (by simp) _
  have ho := heap_alloc2_old V (.cells #[.int .i64 b, .int .i64 0, .bool false] 72) (.cells #[.slice (some ⟨w.heap.size + 1, 0, none⟩) 1 1, .int .i64 0, .int .i64 0, .int .i64 0] 68)
  have hn := heap_alloc2_new V (.cells #[.int .i64 b, .int .i64 0, .bool false] 72) (.cells #[.slice (some ⟨w.heap.size + 1, 0, none⟩) 1 1, .int .i64 0, .int .i64 0, .int .i64 0] 68)
  rw [hs] at ho hn
  refine ⟨w.heap.size + 1, 1, 1, ⟨hn, (hbb.block w.heap.size (by omega)).trans h0, by omega, by omega, hbV.trans (hbb.mono (by omega))⟩, ?_⟩
  refine ⟨rfl, .inr ⟨w.heap.size + 1, 1, #[.int .i64 b, .int .i64 0, .bool false], rfl, Nat.zero_le _, ho, Nat.le_refl _, by unfold maxLen; omega, rfl, by simp [Ex.s0, Ex.bot, ents, ec]⟩⟩
theorem rbuild_bot (l : Int) (w : World) : (Instr.build 72 #[(0, .int .i64 l), (1, .int .i64 0), (2, .bool false)]).run Try.prog w = .ok (.agg #[.int .i64 l, .int .i64 0, .bool false]) w := run_build w 72 _ _ (by kernel_rfl)
theorem rbuild_way (v : Option Addr) (n cap : Nat) (w : World) : (Instr.build 68 #[(0, .slice v n cap)]).run Try.prog w = .ok (.agg #[.slice v n cap, .int .i64 0, .int .i64 0, .int .i64 0]) w := run_build w 68 _ _ (by kernel_rfl)
theorem rahead_any (ao : Option Addr) (n cap0 : Nat) (c : List Int) (b : Int) (i : Nat) (w : World) (h : Row .i64 w ao n cap0 c) (hn : n ≤ 300) (hb0 : 0 ≤ b) (hb1 : b ≤ 1) (hi : i ≤ n) :
    Calls Try.prog 44 #[.slice ao n cap0, .int .i64 b, .int .i64 (i : Int)] w fun e w' => ∃ g' n' cap', e = .returned (.agg #[.slice (some ⟨g', 0, none⟩) n' cap', .int .i64 ((Ex.at' (Ex.s0 b) c i).oi : Int), .int .i64 ((Ex.at' (Ex.s0 b) c i).oe : Int), .int .i64 ((Ex.at' (Ex.s0 b) c i).va : Int)]) ∧ WA w' (Ex.at' (Ex.s0 b) c i).st g' n' cap' ∧ Below w.heap.size w w' := by
  have HH := hide (hd_begin w b)
  have H := hide h
  have HL := hide h.len
  have hbd := rbuild_bot
  have hbo := rbuild_ent1
  have hbw := rbuild_way
  clear h
  go_enter Try.func44, Try.ntmps44
  go_wp2_with fail
  go_loopw [8] (fun s8 wr => ∃ k : Nat, k ≤ i ∧ s8 = .int .i64 (k : Int) ∧ Hid (Hd w wr (w.heap.size + 2) w.heap.size (Ex.at' (Ex.s0 b) c k))) (fun s8 _ => i - (intOf s8).toNat)
  case atStart => exact ⟨0, Nat.zero_le _, rfl, HH⟩
  case round =>
    clear HH
    obtain ⟨k, hk, rfl, hh⟩ := hrel
    obtain ⟨g, n', cap', hB, hA⟩ := hh.out
    have hok : Ex.Ok b (Ex.at' (Ex.s0 b) c k) k := Ex.Ok.at c k
    have npq : ¬ w.heap.size + 2 = w.heap.size := by omega
    have npq2 : ¬ w.heap.size = w.heap.size + 2 := by omega
    by_cases hlt : k < i
    · have hin : (k : Int) < (i : Int) := by omega
      have HBH := hide (rbehind_any (S := Ex.at' (Ex.s0 b) c (k + 1)) hA hok hb0 hb1 (by omega) ao n cap0 c (H.out.below hB.bel) hn k (by omega) rfl)
      obtain ⟨p0, p1, p2, p3⟩ := hB.c
      have HB := hide hB
      obtain ⟨S', hS'⟩ : ∃ S', Ex.at' (Ex.s0 b) c (k + 1) = S' := ⟨_, rfl⟩
      rw [hS'] at HBH
      have HSS := hide hS'
      clear hB hA hok hh hS'
      go_wp2_with fail
      refine HBH.out.mono ?_
      rintro e w4 ⟨g4, n4, c4, rfl, hA4, hb4⟩
      have hB4 := HB.out.below hb4
      obtain ⟨t0, t1, t2, t3⟩ := hB4.c
      have tf0 := hB4.f 0
      have tf1 := hB4.f 1
      have tf2 := hB4.f 2
      have tf3 := hB4.f 3
      have HF := hide (show Hd w _ (w.heap.size + 2) w.heap.size S' from ⟨g4, n4, c4, hB4.set4' g4 n4 c4 (S'.oi : Int) (S'.oe : Int) (S'.va : Int), hA4.set4' (hA4.notWay hB4.hp) g4 n4 c4 (S'.oi : Int) (S'.oe : Int) (S'.va : Int)⟩)
      clear hB4 hA4 hb4 HBH HB p0 p1 p2 p3
      go_wp2
      go_roundw
      case rel => exact ⟨k + 1, by omega, by go_num, hide (by rw [HSS.out]; exact HF.out)⟩
      case measure => simp [intOf]; omega
    · obtain rfl : k = i := by omega
      have hne : ¬ ((k : Int) < (k : Int)) := by omega
      obtain ⟨p0, p1, p2, p3⟩ := hB.c
      obtain ⟨q0, q1, q2, q3⟩ := hB.qc
      have qf0 := hB.qf 0
      have qf1 := hB.qf 1
      have qf2 := hB.qf 2
      have qf3 := hB.qf 3
      have HB := hide hB
      have HA := hide hA
      obtain ⟨S, hS⟩ : ∃ S, Ex.at' (Ex.s0 b) c k = S := ⟨_, rfl⟩
      have HSS := hide hS
      rw [hS] at HB HA p1 p2 p3
      clear hB hA hok hh hS
      go_wp2
      exact bodyPost_ret (results1 Try.results44 _ _ _ w.heap.size _ rfl (way_out HB.out g n' cap' (S.oi : Int) (S.oe : Int) (S.va : Int))) rfl ⟨g, n', cap', by rw [HSS.out], by rw [HSS.out]; exact HA.out.set4' (HA.out.notWay HB.out.hq) g n' cap' (S.oi : Int) (S.oe : Int) (S.va : Int), way_bel HB.out g n' cap' (S.oi : Int) (S.oe : Int) (S.va : Int)⟩
end Go.Proofs.Ythohbiklnknofaa
