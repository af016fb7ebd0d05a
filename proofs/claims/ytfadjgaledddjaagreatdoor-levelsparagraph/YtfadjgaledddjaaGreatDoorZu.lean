import Derived.Test.YtfadjgaledddjaaGreatDoorZs1
import Derived.Test.YtfadjgaledddjaaGreatDoorZs2
import Derived.Test.YtfadjgaledddjaaGreatDoorZs3
import Derived.Test.YtfadjgaledddjaaGreatDoorZs4
import Derived.Test.YtfadjgaledddjaaGreatDoorZs5
import Derived.Test.YtfadjgaledddjaaGreatDoorZs6
import Derived.Test.YtfadjgaledddjaaGreatDoorZs7
import Derived.Test.YtfadjgaledddjaaGreatDoorZa
import Derived.Test.YtfadjgaledddjaaGreatDoorZc
/- The document's behind as one; ahead; Formed. -/
namespace Go.Proofs.YtfadjgaledddjaaGreatDoor
open Go.RowKit
set_option linter.unusedVariables false
set_option maxHeartbeats 2000000
set_option maxRecDepth 100000
theorem rbehind_any {w : World} {st : List Ex.Ent} {g n cap : Nat} {oi oe va : Nat} {b : Int} {k : Nat} (h : WA w st g n cap) (hok : Ex.Ok b ⟨st, oi, oe, va⟩ k) (hb0 : 0 ≤ b) (hb1 : b ≤ 1) (hk : k ≤ 1000) (ao : Option Addr) (nc capc : Nat) (c : List Int) (hr : Row .i64 w ao nc capc c) (hnc : nc ≤ 300) (i : Nat) (hi : i < nc) (S : Ex.St) (hS : Ex.step ⟨st, oi, oe, va⟩ (c.getD i 0) (c.drop (i + 1)) = S) :
    Calls Tryz.prog 39 #[.agg #[.slice (some ⟨g, 0, none⟩) n cap, .int .i64 (oi : Int), .int .i64 (oe : Int), .int .i64 (va : Int)], .slice ao nc capc, .int .i64 (i : Int)] w fun e w' => ∃ g' n' cap', e = .returned (.agg #[.slice (some ⟨g', 0, none⟩) n' cap', .int .i64 (S.oi : Int), .int .i64 (S.oe : Int), .int .i64 (S.va : Int)]) ∧ WA w' S.st g' n' cap' ∧ Below w.heap.size w w' := by
  by_cases h17 : c.getD i 0 = 17
  · have := rbeh_17 h hok hb0 hb1 hk ao nc capc c hr hnc i hi h17
    rw [h17] at hS; subst hS; exact this
  by_cases h15 : c.getD i 0 = 15
  · have := rbeh_15 h hok hb0 hb1 hk ao nc capc c hr hnc i hi h15
    rw [h15] at hS; subst hS; exact this
  by_cases h18 : c.getD i 0 = 18
  · have := rbeh_18 h hok hb0 hb1 hk ao nc capc c hr hnc i hi h18
    rw [h18] at hS; subst hS; exact this
  by_cases h16 : c.getD i 0 = 16
  · have := rbeh_16 h hok hb0 hb1 hk ao nc capc c hr hnc i hi h16
    rw [h16] at hS; subst hS; exact this
  by_cases h19 : c.getD i 0 = 19
  · have := rbeh_pdf h hok hb0 hb1 hk ao nc capc c hr hnc i hi h19
    rw [h19] at hS; subst hS; exact this
  by_cases h23 : c.getD i 0 = 23
  · have := rbeh_pdi h hok hb0 hb1 hk ao nc capc c hr hnc i hi h23
    rw [h23] at hS; subst hS; exact this
  by_cases h21 : c.getD i 0 = 21
  · have := rbeh_21 h hok hb0 hb1 hk ao nc capc c hr hnc i hi h21
    rw [h21] at hS; subst hS; exact this
  by_cases h20 : c.getD i 0 = 20
  · have := rbeh_20 h hok hb0 hb1 hk ao nc capc c hr hnc i hi h20
    rw [h20] at hS; subst hS; exact this
  by_cases h22 : c.getD i 0 = 22
  · have := rbeh_22 h hok hb0 hb1 hk ao nc capc c hr hnc i hi h22
    rw [h22] at hS; subst hS; exact this
  have := rbeh_other h hok hb0 hb1 hk ao nc capc c hr hnc i hi (c.getD i 0) rfl ⟨h17, h15, h18, h16, h19, h23, h20, h21, h22⟩
  rw [step_other ⟨h17, h15, h18, h16, h19, h23⟩ ⟨h20, h21, h22⟩] at hS
  subst hS
  exact this
end Go.Proofs.YtfadjgaledddjaaGreatDoor

/- The document's ahead and Formed. -/
namespace Go.Proofs.YtfadjgaledddjaaGreatDoor
open Go.RowKit
set_option linter.unusedVariables false
set_option maxHeartbeats 2000000
set_option maxRecDepth 100000
theorem rformed_any (ao : Option Addr) (n cap : Nat) (c : List Int) (w : World) (h : Row .i64 w ao n cap c) (hn : n ≤ 300) (F : Bool) (hF : F = true ↔ Ex.Formed c) :
    Calls Tryz.prog 34 #[.slice ao n cap] w fun e w' => e = .returned (.bool F) ∧ w = w' := by
  have H := hide h
  have HL := hide h.len
  have HF := hide hF
  clear h hF
  go_enter Tryz.func34, Tryz.ntmps34
  go_wp2
  go_loopw [3] (fun s3 wr => ∃ k : Nat, k ≤ n ∧ s3 = .int .i64 (k : Int) ∧ Hid (∀ i, i < k → 1 ≤ c.getD i 0 ∧ c.getD i 0 ≤ 23 ∧ (c.getD i 0 = 11 → i + 1 = n)) ∧ w = wr) (fun s3 _ => n - (intOf s3).toNat)
  case atStart => exact ⟨0, Nat.zero_le _, rfl, hide (fun i hi => by omega), rfl⟩
  case round =>
    obtain ⟨k, hk, rfl, hall, rfl⟩ := hrel
    by_cases hlt : k < n
    · obtain ⟨b, off, rfl, hbl, hc⟩ := H.out.cells (by omega)
      have ck : w.cell? ⟨b, off + k, none⟩ = some (.int .i64 (c.getD k 0)) := hc k (by rw [HL.out]; exact hlt)
      have hin : (k : Int) < (n : Int) := by omega
      have HNO := hide (fun (hbad : ¬ (1 ≤ c.getD k 0 ∧ c.getD k 0 ≤ 23 ∧ (c.getD k 0 = 11 → k + 1 = n))) => (show F = false from by
        cases hf : F with
        | false => rfl
        | true =>
          have h1 := HF.out.1 hf k (by rw [HL.out]; exact hlt)
          rw [HL.out] at h1
          exact absurd h1 hbad))
      have HYES := hide (fun (hgood : 1 ≤ c.getD k 0 ∧ c.getD k 0 ≤ 23 ∧ (c.getD k 0 = 11 → k + 1 = n)) => (show ∀ i, i < k + 1 → 1 ≤ c.getD i 0 ∧ c.getD i 0 ≤ 23 ∧ (c.getD i 0 = 11 → i + 1 = n) from fun i hi => by
        by_cases hik : i = k
        · subst hik; exact hgood
        · exact hall.out i (by omega)))
      generalize c.getD k 0 = x at *
      clear hc hall
      by_cases h1 : x < 1
      · have HE := hide (HNO.out (fun h => by omega))
        clear HNO HYES
        go_wp2
        go_ret
        exact ⟨ret_bool HE.out.symm, rfl⟩
      · by_cases h2 : 23 < x
        · have HE := hide (HNO.out (fun h => by omega))
          clear HNO HYES
          go_wp2
          go_ret
          exact ⟨ret_bool HE.out.symm, rfl⟩
        · by_cases h3 : x = 11
          · by_cases h4 : (k : Int) < (n : Int) - 1
            · have HE := hide (HNO.out (fun h => by have := h.2.2 h3; omega))
              clear HNO HYES
              subst h3
              go_wp2
              go_ret
              exact ⟨ret_bool HE.out.symm, rfl⟩
            · have HE := hide (HYES.out ⟨by omega, by omega, fun _ => by omega⟩)
              clear HNO HYES
              subst h3
              go_wp2
              go_roundw
              case rel => exact ⟨k + 1, by omega, by go_num, HE, trivial⟩
              case measure => simp [intOf]; omega
          · have HE := hide (HYES.out ⟨by omega, by omega, fun h => absurd h h3⟩)
            have h3' : (x == 11) = false := beq_false_of_ne h3
            clear HNO HYES
            go_wp2
            go_roundw
            case rel => exact ⟨k + 1, by omega, by go_num, HE, trivial⟩
            case measure => simp [intOf]; omega
    · obtain rfl : k = n := by omega
      have hne : ¬ ((k : Int) < (k : Int)) := by omega
      have HE := hide (show F = true from HF.out.2 (fun i hi => by rw [HL.out] at hi ⊢; exact hall.out i hi))
      clear hall
      go_wp2
      go_ret
      exact ⟨ret_bool HE.out.symm, rfl⟩
/-- What ahead keeps: the Way at p, the result at q. -/
def Hd (w wr : World) (p q : Nat) (S : Ex.St) : Prop := ∃ g n cap, WB w wr p q g n cap (S.oi : Int) (S.oe : Int) (S.va : Int) ∧ WA wr S.st g n cap
theorem hd_begin (w : World) (b : Int) : Hd w (((w.alloc (.cells #[.slice none 0 0, .int .i64 0, .int .i64 0, .int .i64 0] 74)).alloc (.cells #[.int .i64 b, .int .i64 0, .bool false] 78)).alloc (.cells #[.slice (some ⟨w.heap.size + 1, 0, none⟩) 1 1, .int .i64 0, .int .i64 0, .int .i64 0] 74)) (w.heap.size + 2) w.heap.size (Ex.s0 b) := by
  obtain ⟨V, hV⟩ : ∃ V, w.alloc (.cells #[.slice none 0 0, .int .i64 0, .int .i64 0, .int .i64 0] 74) = V := ⟨_, rfl⟩
  have hs : V.heap.size = w.heap.size + 1 := by rw [← hV]; simp
  have h0 : V.heap[w.heap.size]? = some (.cells #[.slice none 0 0, .int .i64 0, .int .i64 0, .int .i64 0] 74 (0, 0)) := by rw [← hV]; exact heap_alloc_last w _
  have hbV : Below w.heap.size w V := by rw [← hV]; exact Below.alloc (Below.refl _ _) (Nat.le_refl _) _
  rw [hV]
  have hbb : Below V.heap.size V ((V.alloc (.cells #[.int .i64 b, .int .i64 0, .bool false] 78)).alloc (.cells #[.slice (some ⟨w.heap.size + 1, 0, none⟩) 1 1, .int .i64 0, .int .i64 0, .int .i64 0] 74)) := Below.alloc (Below.alloc (Below.refl _ _) (Nat.le_refl _) _) (by simp) _
  have ho := heap_alloc2_old V (.cells #[.int .i64 b, .int .i64 0, .bool false] 78) (.cells #[.slice (some ⟨w.heap.size + 1, 0, none⟩) 1 1, .int .i64 0, .int .i64 0, .int .i64 0] 74)
  have hn := heap_alloc2_new V (.cells #[.int .i64 b, .int .i64 0, .bool false] 78) (.cells #[.slice (some ⟨w.heap.size + 1, 0, none⟩) 1 1, .int .i64 0, .int .i64 0, .int .i64 0] 74)
  rw [hs] at ho hn
  refine ⟨w.heap.size + 1, 1, 1, ⟨hn, (hbb.block w.heap.size (by omega)).trans h0, by omega, by omega, hbV.trans (hbb.mono (by omega))⟩, ?_⟩
  refine ⟨rfl, .inr ⟨w.heap.size + 1, 1, #[.int .i64 b, .int .i64 0, .bool false], rfl, Nat.zero_le _, ho, Nat.le_refl _, by unfold maxLen; omega, rfl, by simp [Ex.s0, Ex.bot, ents, ec]⟩⟩
theorem rbuild_bot (l : Int) (w : World) : (Instr.build 78 #[(0, .int .i64 l), (1, .int .i64 0), (2, .bool false)]).run Tryz.prog w = .ok (.agg #[.int .i64 l, .int .i64 0, .bool false]) w := run_build w 78 _ _ (by kernel_rfl)
theorem rbuild_way (v : Option Addr) (n cap : Nat) (w : World) : (Instr.build 74 #[(0, .slice v n cap)]).run Tryz.prog w = .ok (.agg #[.slice v n cap, .int .i64 0, .int .i64 0, .int .i64 0]) w := run_build w 74 _ _ (by kernel_rfl)
theorem rahead_any (ao : Option Addr) (n cap0 : Nat) (c : List Int) (b : Int) (i : Nat) (w : World) (h : Row .i64 w ao n cap0 c) (hn : n ≤ 300) (hb0 : 0 ≤ b) (hb1 : b ≤ 1) (hi : i ≤ n) :
    Calls Tryz.prog 38 #[.slice ao n cap0, .int .i64 b, .int .i64 (i : Int)] w fun e w' => ∃ g' n' cap', e = .returned (.agg #[.slice (some ⟨g', 0, none⟩) n' cap', .int .i64 ((Ex.at' (Ex.s0 b) c i).oi : Int), .int .i64 ((Ex.at' (Ex.s0 b) c i).oe : Int), .int .i64 ((Ex.at' (Ex.s0 b) c i).va : Int)]) ∧ WA w' (Ex.at' (Ex.s0 b) c i).st g' n' cap' ∧ Below w.heap.size w w' := by
  have HH := hide (hd_begin w b)
  have H := hide h
  have HL := hide h.len
  have hbd := rbuild_bot
  have hbo := rbuild_ent1
  have hbw := rbuild_way
  clear h
  go_enter Tryz.func38, Tryz.ntmps38
  go_wp2_with fail
  go_loopw [8] (fun s8 wr => ∃ k : Nat, k ≤ i ∧ s8 = .int .i64 (k : Int) ∧ Hid (Hd w wr (w.heap.size + 2) w.heap.size (Ex.at' (Ex.s0 b) c k))) (fun s8 _ => i - (intOf s8).toNat)
  case atStart => exact ⟨0, Nat.zero_le _, rfl, HH⟩
  case round =>
    clear HH
    obtain ⟨k, hk, rfl, hh⟩ := hrel
    obtain ⟨g, n', cap', hB, hA⟩ := hh.out
    have hok : Ex.Ok b (Ex.at' (Ex.s0 b) c k) k := Ex.Ok.at c k
    have npq : ¬ w.heap.size + 2 = w.heap.size := by omega
    have npq2 : ¬ w.heap.size = w.heap.size + 2 := by omega
    by_cases hlt : k < i
    · have hin : (k : Int) < (i : Int) := by omega
      have HBH := hide (rbehind_any (S := Ex.at' (Ex.s0 b) c (k + 1)) hA hok hb0 hb1 (by omega) ao n cap0 c (H.out.below hB.bel) hn k (by omega) rfl)
      obtain ⟨p0, p1, p2, p3⟩ := hB.c
      have HB := hide hB
      obtain ⟨S', hS'⟩ : ∃ S', Ex.at' (Ex.s0 b) c (k + 1) = S' := ⟨_, rfl⟩
      rw [hS'] at HBH
      have HSS := hide hS'
      clear hB hA hok hh hS'
      go_wp2_with fail
      refine HBH.out.mono ?_
      rintro e w4 ⟨g4, n4, c4, rfl, hA4, hb4⟩
      have hB4 := HB.out.below hb4
      obtain ⟨t0, t1, t2, t3⟩ := hB4.c
      have tf0 := hB4.f 0
      have tf1 := hB4.f 1
      have tf2 := hB4.f 2
      have tf3 := hB4.f 3
      have HF := hide (show Hd w _ (w.heap.size + 2) w.heap.size S' from ⟨g4, n4, c4, hB4.set4' g4 n4 c4 (S'.oi : Int) (S'.oe : Int) (S'.va : Int), hA4.set4' (hA4.notWay hB4.hp) g4 n4 c4 (S'.oi : Int) (S'.oe : Int) (S'.va : Int)⟩)
      clear hB4 hA4 hb4 HBH HB p0 p1 p2 p3
      go_wp2
      go_roundw
      case rel => exact ⟨k + 1, by omega, by go_num, hide (by rw [HSS.out]; exact HF.out)⟩
      case measure => simp [intOf]; omega
    · obtain rfl : k = i := by omega
      have hne : ¬ ((k : Int) < (k : Int)) := by omega
      obtain ⟨p0, p1, p2, p3⟩ := hB.c
      obtain ⟨q0, q1, q2, q3⟩ := hB.qc
      have qf0 := hB.qf 0
      have qf1 := hB.qf 1
      have qf2 := hB.qf 2
      have qf3 := hB.qf 3
      have HB := hide hB
      have HA := hide hA
      obtain ⟨S, hS⟩ : ∃ S, Ex.at' (Ex.s0 b) c k = S := ⟨_, rfl⟩
      have HSS := hide hS
      rw [hS] at HB HA p1 p2 p3
      clear hB hA hok hh hS
      go_wp2
      exact bodyPost_ret (results1 Tryz.results38 _ _ _ w.heap.size _ rfl (way_out HB.out g n' cap' (S.oi : Int) (S.oe : Int) (S.va : Int))) rfl ⟨g, n', cap', by rw [HSS.out], by rw [HSS.out]; exact HA.out.set4' (HA.out.notWay HB.out.hq) g n' cap' (S.oi : Int) (S.oe : Int) (S.va : Int), way_bel HB.out g n' cap' (S.oi : Int) (S.oe : Int) (S.va : Int)⟩
end Go.Proofs.YtfadjgaledddjaaGreatDoor

/- The document's Resolve. -/
namespace Go.Proofs.YtfadjgaledddjaaGreatDoor
open Go.RowKit
set_option linter.unusedVariables false
set_option maxHeartbeats 2000000
set_option maxRecDepth 100000
theorem rresolve_arg (ao : Option Addr) (n cap : Nat) (b : Int) (w : World) (hb : ¬ b = 0 ∧ ¬ b = 1) :
    Calls Tryz.prog 23 #[.slice ao n cap, .int .i64 b] w fun e w' => e = .returned (.tuple #[.slice none 0 0, .slice none 0 0, .int .i64 2]) ∧ w = w' := by
  by_cases h1 : b < 0
  · go_enter Tryz.func23, Tryz.ntmps23
    go_wp2
    go_ret3
    exact ⟨rfl, rfl⟩
  · have h2 : 1 < b := by omega
    go_enter Tryz.func23, Tryz.ntmps23
    go_wp2
    go_ret3
    exact ⟨rfl, rfl⟩
theorem rresolve_form (ao : Option Addr) (n cap : Nat) (c : List Int) (b : Int) (w : World) (h : Row .i64 w ao n cap c) (hn : n ≤ 300) (hb : b = 0 ∨ b = 1) (hF : ¬ Ex.Formed c) :
    Calls Tryz.prog 23 #[.slice ao n cap, .int .i64 b] w fun e w' => e = .returned (.tuple #[.slice none 0 0, .slice none 0 0, .int .i64 50]) ∧ w = w' := by
  have HP := hide (rformed_any ao n cap c w h hn false (by simp [hF]))
  have h1 : ¬ b < 0 := by omega
  have h2 : ¬ 1 < b := by omega
  clear h hn hF hb
  go_enter Tryz.func23, Tryz.ntmps23
  go_wp2_with (go_at_call 34; refine HP.out.mono ?_; rintro e w' ⟨rfl, rfl⟩)
  go_ret3
  exact ⟨rfl, rfl⟩
theorem rlev_rm {b : Int} {s : Ex.St} {c : List Int} {k : Nat} (h : Ex.rm (c.getD k 0) = true) : Ex.lev b s c k = -1 ∧ Ex.typ s c k = c.getD k 0 := by
  unfold Ex.lev Ex.typ Ex.tl Ex.ty
  rw [if_pos h, if_pos h]
  exact ⟨rfl, rfl⟩
theorem rlev_sep {b : Int} {s : Ex.St} {c : List Int} {k : Nat} (h : c.getD k 0 = 11) : Ex.lev b s c k = b ∧ Ex.typ s c k = c.getD k 0 := by
  unfold Ex.lev Ex.typ Ex.tl Ex.ty
  rw [h]
  exact ⟨rfl, rfl⟩
def lvP (b : Int) (c : List Int) (k : Nat) : List Int := (List.range k).map (Ex.lev b (Ex.s0 b) c)
def tyP (b : Int) (c : List Int) (k : Nat) : List Int := (List.range k).map (Ex.typ (Ex.s0 b) c)
theorem lvP_succ (b : Int) (c : List Int) (k : Nat) : lvP b c (k + 1) = lvP b c k ++ [Ex.lev b (Ex.s0 b) c k] := by simp [lvP, List.range_succ]
theorem tyP_succ (b : Int) (c : List Int) (k : Nat) : tyP b c (k + 1) = tyP b c k ++ [Ex.typ (Ex.s0 b) c k] := by simp [tyP, List.range_succ]
/-- A variable of the type Way. -/
def VP (W : World) (p g n cap : Nat) (oi oe va : Int) : Prop := W.heap[p]? = some (.cells (wc4 g n cap oi oe va) 74 (0, 0))
section
variable {W : World} {p g n cap : Nat} {oi oe va : Int}
theorem VP.below (h : VP W p g n cap oi oe va) {W' : World} (hb : Below W.heap.size W W') : VP W' p g n cap oi oe va := (hb.block p (Array.getElem?_eq_some_iff.1 h).1).trans h
theorem VP.c (h : VP W p g n cap oi oe va) : W.cell? ⟨p, 0, none⟩ = some (.slice (some ⟨g, 0, none⟩) n cap) ∧ W.cell? ⟨p, 1, none⟩ = some (.int .i64 oi) ∧ W.cell? ⟨p, 2, none⟩ = some (.int .i64 oe) ∧ W.cell? ⟨p, 3, none⟩ = some (.int .i64 va) := by
  unfold VP at h
  refine ⟨?_, ?_, ?_, ?_⟩ <;> simp [World.cell?, h, wc4]
theorem VP.f (h : VP W p g n cap oi oe va) (j : Nat) : W.frozen? ⟨p, j, none⟩ = false := by
  unfold VP at h
  simp [World.frozen?, h]
theorem VP.set4 (h : VP W p g n cap oi oe va) (g' n' cap' : Nat) (a b c : Int) : VP ((((W.setCell ⟨p, 0, none⟩ (.slice (some ⟨g', 0, none⟩) n' cap')).setCell ⟨p, 1, none⟩ (.int .i64 a)).setCell ⟨p, 2, none⟩ (.int .i64 b)).setCell ⟨p, 3, none⟩ (.int .i64 c)) p g' n' cap' a b c := set_heap (set_heap (set_heap (set_heap h _) _) _) _
end
/-- A store into a variable that lies below neither row. -/
theorem J2.other {e : TypeId} {w0 w : World} {va : Value} {na : Nat} {xa : List Int} {vb : Value} {nb : Nat} {xb : List Int} (h : J2 e w0 w va na xa vb nb xb) {p j : Nat} {v : Value} (hp : w0.heap.size ≤ p) (ha : ∀ g, va.ownBlock = some g → ¬ g = p) (hb : ∀ g, vb.ownBlock = some g → ¬ g = p) : J2 e w0 (w.setCell ⟨p, j, none⟩ v) va na xa vb nb xb := by
  refine ⟨?_, ?_, h.ne, h.bel.setCell (p := ⟨p, j, none⟩) hp v⟩
  · rcases h.oa.2 with ⟨rfl, rfl⟩ | ⟨g, cap, cur, rfl, hbs, hg, rest⟩
    · exact ⟨h.oa.1, .inl ⟨rfl, rfl⟩⟩
    · exact ⟨h.oa.1, .inr ⟨g, cap, cur, rfl, hbs, set_heap_other hg (fun h0 => ha g rfl h0.symm) v, rest⟩⟩
  · rcases h.ob.2 with ⟨rfl, rfl⟩ | ⟨g, cap, cur, rfl, hbs, hg, rest⟩
    · exact ⟨h.ob.1, .inl ⟨rfl, rfl⟩⟩
    · exact ⟨h.ob.1, .inr ⟨g, cap, cur, rfl, hbs, set_heap_other hg (fun h0 => hb g rfl h0.symm) v, rest⟩⟩
/-- A new variable of the type Way. -/
theorem WA.alloc {w : World} {st : List Ex.Ent} {g n cap : Nat} (h : WA w st g n cap) (o : Obj) : WA (w.alloc o) st g n cap := h.below (Below.alloc (Below.refl _ _) (Nat.le_refl _) o)
theorem rresolve_own (ao : Option Addr) (n cap0 : Nat) (c : List Int) (b : Int) (w : World) (h : Row .i64 w ao n cap0 c) (hn : n ≤ 300) (hb : b = 0 ∨ b = 1) (hF : Ex.Formed c) :
    Calls Tryz.prog 23 #[.slice ao n cap0, .int .i64 b] w fun e w' => ∃ al cl at' ct, e = .returned (.tuple #[.slice al n cl, .slice at' n ct, .int .i64 0]) ∧ J2 3 w w' (.slice al n cl) n (Ex.LV b c) (.slice at' n ct) n (Ex.TY b c) := by
  have HP := hide (rformed_any ao n cap0 c w h hn true (by simp [hF]))
  have H := hide h
  have HL := hide h.len
  have h1 : ¬ b < 0 := by omega
  have h2 : ¬ 1 < b := by omega
  have hb0 : 0 ≤ b := by omega
  have hb1 : b ≤ 1 := by omega
  obtain ⟨ii, hii, hy0, hy1, hy2⟩ := info_parts infoInt
  have HII : Hid (Tryz.prog.info? 3 = some ii) := hii
  have HY0 := hide hy0
  have HY1 := hide hy1
  have HY2 := hide hy2
  have hfl := rfield_lv
  have hfo := rfield_ov
  clear h hF hb hii hy0 hy1 hy2
  go_enter Tryz.func23, Tryz.ntmps23
  go_wp2_with (go_at_call 34; refine HP.out.mono ?_; rintro e w' ⟨rfl, rfl⟩)
  go_loopw [7, 8, 9] (fun s7 s8 s9 wr => ∃ k : Nat, k ≤ n ∧ s9 = .int .i64 (k : Int) ∧ Hid (J2 3 w wr s7 k (lvP b c k) s8 k (tyP b c k))) (fun _ _ s9 _ => n - (intOf s9).toNat)
  case atStart => exact ⟨0, Nat.zero_le _, rfl, hide (J2.begin w)⟩
  case round =>
    obtain ⟨k, hk, rfl, hj⟩ := hrel
    by_cases hlt : k < n
    · have hkl : k < c.length := by rw [HL.out]; exact hlt
      obtain ⟨cb, off, rfl, hbl, hc⟩ := H.out.cells (by omega)
      have HCK := hide (fun (w' : World) (hb : Below w.heap.size w w') => ((hb.cell (by exact hbl)).trans (hc k hkl) : w'.cell? ⟨cb, off + k, none⟩ = some (.int .i64 (c.getD k 0))))
      have hin : (k : Int) < (n : Int) := by omega
      have HRE := hide (fun w' => rremoved_any (c.getD k 0) w')
      have HLV := hide (lvP_succ b c k)
      have HTY := hide (tyP_succ b c k)
      have hA1 := rlev_rm (b := b) (s := Ex.s0 b) (c := c) (k := k)
      have hA2 := rlev_sep (b := b) (s := Ex.s0 b) (c := c) (k := k)
      have hlev : Ex.lev b (Ex.s0 b) c k = Ex.tl b (Ex.mid (Ex.at' (Ex.s0 b) c k) (c.getD k 0)) (c.getD k 0) := rfl
      have htyp : Ex.typ (Ex.s0 b) c k = Ex.ty (Ex.mid (Ex.at' (Ex.s0 b) c k) (c.getD k 0)) (c.getD k 0) := rfl
      have ck := HCK.out wr hj.out.bel
      obtain ⟨a7, c7, e7, _⟩ := owns_form hj.out.oa
      obtain ⟨a8, c8, e8, _⟩ := owns_form hj.out.ob
      subst e7 e8
      clear hc
      cases hr : Ex.rm (c.getD k 0) with
      | true =>
        obtain ⟨g1, g2⟩ := hA1 hr
        rw [g1] at HLV
        rw [g2] at HTY
        rw [hr] at HRE
        clear hA1 hA2 hlev htyp g1 g2 hr hkl
        generalize c.getD k 0 = x at *
        have hJ := hj.out
        clear hj
        go_wp2_with (first
          | (go_at_call 37; refine (HRE.out _).mono ?_; rintro e w2 ⟨rfl, rfl⟩)
          | (at_builtin; refine wpList_j2 ((hJ).below (Below.alloc (Below.refl _ _) (Nat.le_refl _) _)) rfl (.tmp 32) (.tmp 33) 24 rfl ii _ Tryz.underlying24 HII.out HY0.out HY1.out HY2.out rfl rfl _ (-1) rfl (row_one _ _ rfl (-1)) (by omega) ?_; intro ga cga wga hJn; replace hJ := hJn; clear hJn; have ckga := HCK.out _ hJ.bel)
          | (at_builtin; refine wpList_j2 ((hJ.symm).below (Below.alloc (Below.refl _ _) (Nat.le_refl _) _)) rfl (.tmp 35) (.tmp 40) 24 rfl ii _ Tryz.underlying24 HII.out HY0.out HY1.out HY2.out rfl rfl _ x rfl (row_one _ _ rfl x) (by omega) ?_; intro gb cgb wgb hJn; replace hJ := hJn.symm; clear hJn; have ckgb := HCK.out _ hJ.bel))
        have HJ := hide hJ
        rw [← HLV.out, ← HTY.out] at HJ
        clear hJ
        go_wp2
        go_roundw
        case rel => exact ⟨k + 1, by omega, by go_num, HJ⟩
        case measure => simp [intOf]; omega
      | false =>
        rw [hr] at HRE
        by_cases hx11 : c.getD k 0 = 11
        · obtain ⟨g1, g2⟩ := hA2 hx11
          rw [g1] at HLV
          rw [g2, hx11] at HTY
          rw [hx11] at ck HRE HCK
          clear hA1 hA2 hlev htyp g1 g2 hr hkl hx11
          have hJ := hj.out
          clear hj
          go_wp2_with (first
            | (go_at_call 37; refine (HRE.out _).mono ?_; rintro e w2 ⟨rfl, rfl⟩)
            | (at_builtin; refine wpList_j2 ((hJ).below (Below.alloc (Below.refl _ _) (Nat.le_refl _) _)) rfl (.tmp 47) (.tmp 49) 24 rfl ii _ Tryz.underlying24 HII.out HY0.out HY1.out HY2.out rfl rfl _ b rfl (row_one _ _ rfl b) (by omega) ?_; intro ga cga wga hJn; replace hJ := hJn; clear hJn; have ckga := HCK.out _ hJ.bel)
            | (at_builtin; refine wpList_j2 ((hJ.symm).below (Below.alloc (Below.refl _ _) (Nat.le_refl _) _)) rfl (.tmp 51) (.tmp 56) 24 rfl ii _ Tryz.underlying24 HII.out HY0.out HY1.out HY2.out rfl rfl _ 11 rfl (row_one _ _ rfl 11) (by omega) ?_; intro gb cgb wgb hJn; replace hJ := hJn.symm; clear hJn; have ckgb := HCK.out _ hJ.bel))
          have HJ := hide hJ
          rw [← HLV.out, ← HTY.out] at HJ
          clear hJ
          go_wp2
          go_roundw
          case rel => exact ⟨k + 1, by omega, by go_num, HJ⟩
          case measure => simp [intOf]; omega
        · obtain ⟨f1, f2⟩ := Ex.tl_kept (b := b) (S := Ex.mid (Ex.at' (Ex.s0 b) c k) (c.getD k 0)) hr hx11
          rw [hlev, f1] at HLV
          rw [htyp, f2] at HTY
          have hok : Ex.Ok b (Ex.at' (Ex.s0 b) c k) k := Ex.Ok.at c k
          have hokm := hok.mid (c.getD k 0)
          have HAH := hide (rahead_any (some ⟨cb, off, none⟩) n cap0 c b k wr (H.out.below hj.out.bel) hn hb0 hb1 hk)
          have x11 : (c.getD k 0 == 11) = false := beq_false_of_ne hx11
          have HRW := hide (fun (w' : World) (hb : Below wr.heap.size wr w') => H.out.below (KO.on hj.out.bel hb))
          clear hA1 hA2 hlev htyp f1 f2 hkl hx11
          by_cases hx23 : c.getD k 0 = 23
          · have hmid : Ex.step (Ex.at' (Ex.s0 b) c k) (c.getD k 0) (c.drop (k + 1)) = Ex.mid (Ex.at' (Ex.s0 b) c k) (c.getD k 0) := by rw [hx23]; rfl
            have HOK := hide hok
            have HPOS := hide hokm.ch.pos
            generalize hM : Ex.mid (Ex.at' (Ex.s0 b) c k) (c.getD k 0) = M at *
            generalize Ex.at' (Ex.s0 b) c k = S at *
            rw [hx23] at ck HRE HTY
            have HMID := hide hmid
            have HX := hide hx23
            clear hr hok hokm hM hmid x11
            go_wp2_with (first
              | (go_at_call 37; refine (HRE.out _).mono ?_; rintro e w2 ⟨rfl, rfl⟩)
              | (go_at_call 38; fail))
            refine HAH.out.mono ?_
            rintro e w1 ⟨g, n', cap', rfl, hA1, hb1'⟩
            obtain ⟨W2, hW2⟩ : ∃ W2, w1.alloc (.cells #[.slice (some ⟨g, 0, none⟩) n' cap', .int .i64 (S.oi : Int), .int .i64 (S.oe : Int), .int .i64 (S.va : Int)] 74) = W2 := ⟨_, rfl⟩
            have hbW : Below w1.heap.size w1 W2 := by rw [← hW2]; exact Below.alloc (Below.refl _ _) (Nat.le_refl _) _
            have hV2 : VP W2 w1.heap.size g n' cap' (S.oi : Int) (S.oe : Int) (S.va : Int) := by rw [← hW2]; exact heap_alloc_last w1 _
            have hA2 := hA1.below hbW
            have hJ1 := hj.out.below hb1'
            have hJ2 := hJ1.below hbW
            have ck1 := HCK.out w1 hJ1.bel
            have ck2 := HCK.out W2 hJ2.bel
            rw [HX.out] at ck1 ck2
            obtain ⟨p0, p1, p2, p3⟩ := hV2.c
            have HBH := hide (rbehind_any (S := M) hA2 HOK.out hb0 hb1 (by omega) (some ⟨cb, off, none⟩) n cap0 c (HRW.out _ (KO.on hb1' hbW)) hn k hlt HMID.out)
            have HJ2 := hide hJ2
            have HV2 := hide hV2
            have HSZ := hide (show ∀ g, (Value.slice a7 k c7).ownBlock = some g ∨ (Value.slice a8 k c8).ownBlock = some g → g < w1.heap.size from fun g h => by
              rcases h with h | h
              · exact (hJ1.oa.lt g h).2
              · exact (hJ1.ob.lt g h).2)
            have HSW := hide hJ1.bel.size
            clear hA1 hA2 hJ1 hJ2 hV2 hb1' hbW hj HAH
            go_wp2_with fail
            refine HBH.out.mono ?_
            rintro e w3 ⟨g3, n3, c3, rfl, hA3, hb3⟩
            have hV3 := HV2.out.below hb3
            have hJ3 := HJ2.out.below hb3
            have hV := hV3.set4 g3 n3 c3 (M.oi : Int) (M.oe : Int) (M.va : Int)
            have hA := hA3.set4' (hA3.notWay hV3) g3 n3 c3 (M.oi : Int) (M.oe : Int) (M.va : Int)
            have ha : ∀ g, (Value.slice a7 k c7).ownBlock = some g → ¬ g = w1.heap.size := fun g h => by have := HSZ.out g (.inl h); omega
            have hb : ∀ g, (Value.slice a8 k c8).ownBlock = some g → ¬ g = w1.heap.size := fun g h => by have := HSZ.out g (.inr h); omega
            have hJ := (((hJ3.other (j := 0) (v := .slice (some ⟨g3, 0, none⟩) n3 c3) HSW.out ha hb).other (j := 1) (v := .int .i64 (M.oi : Int)) HSW.out ha hb).other (j := 2) (v := .int .i64 (M.oe : Int)) HSW.out ha hb).other (j := 3) (v := .int .i64 (M.va : Int)) HSW.out ha hb
            obtain ⟨t0, t1, t2, t3⟩ := hV3.c
            have tf0 := hV3.f 0
            have tf1 := hV3.f 1
            have tf2 := hV3.f 2
            have tf3 := hV3.f 3
            obtain ⟨W4, hW4⟩ : ∃ W4, (((w3.setCell ⟨w1.heap.size, 0, none⟩ (.slice (some ⟨g3, 0, none⟩) n3 c3)).setCell ⟨w1.heap.size, 1, none⟩ (.int .i64 (M.oi : Int))).setCell ⟨w1.heap.size, 2, none⟩ (.int .i64 (M.oe : Int))).setCell ⟨w1.heap.size, 3, none⟩ (.int .i64 (M.va : Int)) = W4 := ⟨_, rfl⟩
            rw [hW4] at hV hA hJ
            have hn0 : 0 < n3 := by have := hA.len; have := HPOS.out; omega
            clear hV3 hA3 hJ3 hb3 HBH HJ2 HV2 p0 p1 p2 p3 ck2 ha hb HSZ
            obtain ⟨p0, p1, p2, p3⟩ := hV.c
            have ck4 := HCK.out W4 hJ.bel
            rw [HX.out] at ck4
            by_cases hov : (Ex.hd M.st).ov = 0
            · rw [if_pos hov] at HTY
              go_wp2_with (first
                | (go_at_call 40; refine (rlast_any hA hn0 _ _ _).mono ?_; rintro e wl ⟨rfl, hbl2⟩; replace hJ := hJ.below hbl2; replace hV := hV.below hbl2; replace hA := hA.below hbl2; clear hbl2 p0 p1 p2 p3; obtain ⟨p0, p1, p2, p3⟩ := hV.c; have ckl := HCK.out _ hJ.bel; rw [HX.out] at ckl)
                | (at_builtin; refine wpList_j2 ((hJ).below (Below.alloc (Below.refl _ _) (Nat.le_refl _) _)) rfl (.tmp 82) (.tmp 86) 24 rfl ii _ Tryz.underlying24 HII.out HY0.out HY1.out HY2.out rfl rfl _ (Ex.hd M.st).lv rfl (row_one _ _ rfl (Ex.hd M.st).lv) (by omega) ?_; intro ga cga wga hJn; replace hJ := hJn; clear hJn; have ckga := HCK.out _ hJ.bel)
                | (at_builtin; refine wpList_j2 ((hJ.symm).below (Below.alloc (Below.refl _ _) (Nat.le_refl _) _)) rfl (.tmp 88) (.tmp 90) 24 rfl ii _ Tryz.underlying24 HII.out HY0.out HY1.out HY2.out rfl rfl _ 23 rfl (row_one _ _ rfl 23) (by omega) ?_; intro gb cgb wgb hJn; replace hJ := hJn.symm; clear hJn; have ckgb := HCK.out _ hJ.bel))
              have HJ := hide hJ
              rw [← HLV.out, ← HTY.out] at HJ
              clear hJ hV hA
              go_wp2
              go_roundw
              case rel => exact ⟨k + 1, by omega, by go_num, HJ⟩
              case measure => simp [intOf]; omega
            · rw [if_neg hov] at HTY
              have hov2 : ((Ex.hd M.st).ov != 0) = true := bne_iff_ne.2 hov
              go_wp2_with (first
                | (go_at_call 40; refine (rlast_any hA hn0 _ _ _).mono ?_; rintro e wl ⟨rfl, hbl2⟩; replace hJ := hJ.below hbl2; replace hV := hV.below hbl2; replace hA := hA.below hbl2; clear hbl2 p0 p1 p2 p3; obtain ⟨p0, p1, p2, p3⟩ := hV.c; have ckl := HCK.out _ hJ.bel; rw [HX.out] at ckl)
                | (at_builtin; refine wpList_j2 ((hJ).below (Below.alloc (Below.refl _ _) (Nat.le_refl _) _)) rfl (.tmp 82) (.tmp 86) 24 rfl ii _ Tryz.underlying24 HII.out HY0.out HY1.out HY2.out rfl rfl _ (Ex.hd M.st).lv rfl (row_one _ _ rfl (Ex.hd M.st).lv) (by omega) ?_; intro ga cga wga hJn; replace hJ := hJn; clear hJn; have ckga := HCK.out _ hJ.bel)
                | (at_builtin; refine wpList_j2 ((hJ.symm).below (Below.alloc (Below.refl _ _) (Nat.le_refl _) _)) rfl (.tmp 88) (.tmp 90) 24 rfl ii _ Tryz.underlying24 HII.out HY0.out HY1.out HY2.out rfl rfl _ (Ex.hd M.st).ov rfl (row_one _ _ rfl (Ex.hd M.st).ov) (by omega) ?_; intro gb cgb wgb hJn; replace hJ := hJn.symm; clear hJn; have ckgb := HCK.out _ hJ.bel))
              have HJ := hide hJ
              rw [← HLV.out, ← HTY.out] at HJ
              clear hJ hV hA
              go_wp2
              go_roundw
              case rel => exact ⟨k + 1, by omega, by go_num, HJ⟩
              case measure => simp [intOf]; omega
          · have hmid : Ex.mid (Ex.at' (Ex.s0 b) c k) (c.getD k 0) = Ex.at' (Ex.s0 b) c k := by
              rcases rm_cases (c.getD k 0) with ⟨h5, _⟩ | ⟨_, h5⟩
              · rw [h5] at hr; cases hr
              · exact mid_other ⟨h5.1, h5.2.1, h5.2.2.1, h5.2.2.2.1, h5.2.2.2.2.1, hx23⟩
            rw [hmid] at HLV HTY hokm
            have x23 : (c.getD k 0 == 23) = false := beq_false_of_ne hx23
            have HPOS := hide hokm.ch.pos
            generalize Ex.at' (Ex.s0 b) c k = M at *
            generalize c.getD k 0 = x at *
            clear hmid hr hx23 hok hokm
            go_wp2_with (first
              | (go_at_call 37; refine (HRE.out _).mono ?_; rintro e w2 ⟨rfl, rfl⟩)
              | (go_at_call 38; fail))
            refine HAH.out.mono ?_
            rintro e w1 ⟨g3, n3, c3, rfl, hA1, hb1'⟩
            obtain ⟨W4, hW4⟩ : ∃ W4, w1.alloc (.cells #[.slice (some ⟨g3, 0, none⟩) n3 c3, .int .i64 (M.oi : Int), .int .i64 (M.oe : Int), .int .i64 (M.va : Int)] 74) = W4 := ⟨_, rfl⟩
            have hbW : Below w1.heap.size w1 W4 := by rw [← hW4]; exact Below.alloc (Below.refl _ _) (Nat.le_refl _) _
            have hV : VP W4 w1.heap.size g3 n3 c3 (M.oi : Int) (M.oe : Int) (M.va : Int) := by rw [← hW4]; exact heap_alloc_last w1 _
            have hA := hA1.below hbW
            have hJ := (hj.out.below hb1').below hbW
            have ck1 := HCK.out w1 (hj.out.below hb1').bel
            have ck4 := HCK.out W4 hJ.bel
            have hn0 : 0 < n3 := by have := hA.len; have := HPOS.out; omega
            obtain ⟨p0, p1, p2, p3⟩ := hV.c
            clear hA1 hb1' hbW hj HAH
            by_cases hov : (Ex.hd M.st).ov = 0
            · rw [if_pos hov] at HTY
              go_wp2_with (first
                | (go_at_call 40; refine (rlast_any hA hn0 _ _ _).mono ?_; rintro e wl ⟨rfl, hbl2⟩; replace hJ := hJ.below hbl2; replace hV := hV.below hbl2; replace hA := hA.below hbl2; clear hbl2 p0 p1 p2 p3; obtain ⟨p0, p1, p2, p3⟩ := hV.c; have ckl := HCK.out _ hJ.bel)
                | (at_builtin; refine wpList_j2 ((hJ).below (Below.alloc (Below.refl _ _) (Nat.le_refl _) _)) rfl (.tmp 82) (.tmp 86) 24 rfl ii _ Tryz.underlying24 HII.out HY0.out HY1.out HY2.out rfl rfl _ (Ex.hd M.st).lv rfl (row_one _ _ rfl (Ex.hd M.st).lv) (by omega) ?_; intro ga cga wga hJn; replace hJ := hJn; clear hJn; have ckga := HCK.out _ hJ.bel)
                | (at_builtin; refine wpList_j2 ((hJ.symm).below (Below.alloc (Below.refl _ _) (Nat.le_refl _) _)) rfl (.tmp 88) (.tmp 90) 24 rfl ii _ Tryz.underlying24 HII.out HY0.out HY1.out HY2.out rfl rfl _ x rfl (row_one _ _ rfl x) (by omega) ?_; intro gb cgb wgb hJn; replace hJ := hJn.symm; clear hJn; have ckgb := HCK.out _ hJ.bel))
              have HJ := hide hJ
              rw [← HLV.out, ← HTY.out] at HJ
              clear hJ hV hA
              go_wp2
              go_roundw
              case rel => exact ⟨k + 1, by omega, by go_num, HJ⟩
              case measure => simp [intOf]; omega
            · rw [if_neg hov] at HTY
              have hov2 : ((Ex.hd M.st).ov != 0) = true := bne_iff_ne.2 hov
              go_wp2_with (first
                | (go_at_call 40; refine (rlast_any hA hn0 _ _ _).mono ?_; rintro e wl ⟨rfl, hbl2⟩; replace hJ := hJ.below hbl2; replace hV := hV.below hbl2; replace hA := hA.below hbl2; clear hbl2 p0 p1 p2 p3; obtain ⟨p0, p1, p2, p3⟩ := hV.c; have ckl := HCK.out _ hJ.bel)
                | (at_builtin; refine wpList_j2 ((hJ).below (Below.alloc (Below.refl _ _) (Nat.le_refl _) _)) rfl (.tmp 82) (.tmp 86) 24 rfl ii _ Tryz.underlying24 HII.out HY0.out HY1.out HY2.out rfl rfl _ (Ex.hd M.st).lv rfl (row_one _ _ rfl (Ex.hd M.st).lv) (by omega) ?_; intro ga cga wga hJn; replace hJ := hJn; clear hJn; have ckga := HCK.out _ hJ.bel)
                | (at_builtin; refine wpList_j2 ((hJ.symm).below (Below.alloc (Below.refl _ _) (Nat.le_refl _) _)) rfl (.tmp 88) (.tmp 90) 24 rfl ii _ Tryz.underlying24 HII.out HY0.out HY1.out HY2.out rfl rfl _ (Ex.hd M.st).ov rfl (row_one _ _ rfl (Ex.hd M.st).ov) (by omega) ?_; intro gb cgb wgb hJn; replace hJ := hJn.symm; clear hJn; have ckgb := HCK.out _ hJ.bel))
              have HJ := hide hJ
              rw [← HLV.out, ← HTY.out] at HJ
              clear hJ hV hA
              go_wp2
              go_roundw
              case rel => exact ⟨k + 1, by omega, by go_num, HJ⟩
              case measure => simp [intOf]; omega
    · obtain rfl : k = n := by omega
      have hne : ¬ ((k : Int) < (k : Int)) := by omega
      obtain ⟨al, cl, e1, r1⟩ := row_of_owns hj.out.oa
      obtain ⟨at2, ct, e2, r2⟩ := row_of_owns hj.out.ob
      subst e1 e2
      have HJ := hide (show J2 3 w wr (.slice al k cl) k (Ex.LV b c) (.slice at2 k ct) k (Ex.TY b c) from by have := hj.out; unfold Ex.LV Ex.TY; rw [HL.out]; exact this)
      clear hj r1 r2
      go_wp2
      go_ret3
      exact ⟨al, cl, at2, ct, rfl, HJ.out⟩
theorem rresolve_ok (ao : Option Addr) (n cap0 : Nat) (c : List Int) (b : Int) (w : World) (h : Row .i64 w ao n cap0 c) (hn : n ≤ 300) (hb : b = 0 ∨ b = 1) (hF : Ex.Formed c) :
    Calls Tryz.prog 23 #[.slice ao n cap0, .int .i64 b] w fun e w' => ∃ al cl at' ct, e = .returned (.tuple #[.slice al n cl, .slice at' n ct, .int .i64 0]) ∧ Row .i64 w' al n cl (Ex.LV b c) ∧ Row .i64 w' at' n ct (Ex.TY b c) ∧ Below w.heap.size w w' := by
  refine (rresolve_own ao n cap0 c b w h hn hb hF).mono ?_
  rintro e w' ⟨al, cl, at2, ct, he, hj⟩
  obtain ⟨a1, c1, e1, r1⟩ := row_of_owns hj.oa
  obtain ⟨a2, c2, e2, r2⟩ := row_of_owns hj.ob
  cases e1
  cases e2
  exact ⟨al, cl, at2, ct, he, r1, r2, hj.bel⟩
end Go.Proofs.YtfadjgaledddjaaGreatDoor
