/- The document's answer (colophonref09): Rule, Step, Resolve; Step and Resolve of both, each in one. -/
import Derived.Test.YtkajiagflcflpaaWs
namespace Go.Proofs.Ytkajiagflcflpaa
open Go.RowKit
set_option linter.unusedVariables false
set_option maxHeartbeats 1000000
set_option maxRecDepth 100000
/-- The first k types behind a rule. -/
def RP (r : Nat) (s : Int) (c : List Int) (k : Nat) : List Int := (List.range k).map fun j => We.pv r s c (j + 1)
theorem RP_succ (r : Nat) (s : Int) (c : List Int) (k : Nat) : RP r s c (k + 1) = RP r s c k ++ [We.pv r s c (k + 1)] := by simp [RP, List.range_succ]
theorem RP_at (r : Nat) (s : Int) (c : List Int) (k : Nat) {j : Nat} (hj : j < k) : (RP r s c k).getD j 0 = We.pv r s c (j + 1) := We.getD_map k _ j hj
/-- A row that grows by one append a round. -/
structure RI9 (w : World) (zs : List Int) (k : Nat) (sv : Value) (wr : World) : Prop where
  own : wr.ownsRow w.heap.size 3 1 sv k (zs.map (Value.int .i64))
  bel : Below w.heap.size w wr
theorem RI9.drewN {w : World} {zs : List Int} {k : Nat} {sv : Value} {wr w1 : World} (h : RI9 w zs k sv wr) (hd : ∃ q, w1 = wr.drewN q) : RI9 w zs k sv w1 := by
  obtain ⟨q, rfl⟩ := hd
  have hb := h.bel
  exact ⟨⟨h.own.1, h.own.2⟩, ⟨hb.os, hb.tape, hb.output, hb.size, hb.block⟩⟩
theorem rrule_any (r : Nat) (h1 : 1 ≤ r) (h7 : r ≤ 7) (ao : Option Addr) (n cap : Nat) (s : Int) (c : List Int) (w : World) (h : Row .i64 w ao n cap c) (hn : n ≤ 400) (hs : We.Side s) :
    Calls Try.prog 18 #[.slice ao n cap, .int .i64 s, .int .i64 (r : Int)] w fun e w' => ∃ a1 c1, e = .returned (.slice a1 n c1) ∧ New w a1 n c1 (We.R r s c) w' := by
  obtain ⟨ii, hii, hy0, hy1, hy2⟩ := info_parts infoInt
  have HII : Hid (Try.prog.info? 3 = some ii) := hii
  have HY0 := hide hy0
  have HY1 := hide hy1
  have HY2 := hide hy2
  have HL := hide h.len
  have HO := hide (fun (w' : World) (hk : KO w w') (a1 : Option Addr) (c1 i : Nat) (hi : i < n) (ho : Row .i64 w' a1 i c1 (RP r s c i)) => rone_any (w := w') (ao := ao) (n := n) (cap := cap) (c := c) (s := s) (a1 := a1) (c1 := c1) (i := i) h1 h7 ⟨h.below hk, ⟨_, ho, fun j hj => RP_at r s c i hj⟩, hi, hn, hs⟩)
  clear h hii hy0 hy1 hy2 hs
  go_enter Try.func18, Try.ntmps18
  go_wp2
  go_loopw [7, 8] (fun v7 v8 wr => ∃ k : Nat, k ≤ n ∧ v8 = .int .i64 (k : Int) ∧ Hid (RI9 w (RP r s c k) k v7 wr)) (fun _ v8 _ => n - (intOf v8).toNat)
  case atStart => exact ⟨0, Nat.zero_le _, rfl, ⟨World.ownsRow_nil _ _ _ _, Below.refl _ _⟩⟩
  case round =>
    obtain ⟨k, hk, rfl, hm⟩ := hrel
    by_cases hlt : k < n
    · have hin : (k : Int) < (n : Int) := by omega
      obtain ⟨a7, c7, rfl, hr7⟩ := row_of_owns hm.out.own
      have HC := hide (HO.out wr hm.out.bel a7 c7 k hlt hr7)
      clear hr7
      go_wp2_with fail
      refine HC.out.mono ?_
      rintro e w1 ⟨rfl, hd⟩
      have HM1 := hide (hm.out.drewN hd)
      have HOW := hide HM1.out.own
      have HB := hide HM1.out.bel
      have hsz := HM1.out.bel.size
      have HSN := hide (RP_succ r s c k)
      clear hd hm HC HM1
      generalize We.pv r s c (k + 1) = x at *
      go_wp2_with (at_builtin; refine wpList_append_row _ rfl (.tmp 15) (.tmp 22) 22 rfl w.heap.size 3 ii (.int .i64 0) 8 Try.underlying22 HII.out HY0.out HY1.out HY2.out rfl _ k _ rfl (HOW.out.alloc _) .i64 _ 1 1 [x] rfl (row_one _ w1.heap.size rfl x) (by omega) (by omega) (by simp; omega) ?_; intro v2 w2 hown2 hb2)
      have HM := hide (show RI9 w (RP r s c (k + 1)) (k + 1) v2 w2 from by
        refine ⟨?_, Below.trans (Below.alloc HB.out hsz _) hb2⟩
        rw [HSN.out, List.map_append]
        exact hown2)
      clear hown2 hb2
      go_wp2
      go_roundw
      case rel => exact ⟨k + 1, by omega, by go_num, HM⟩
      case measure => simp [intOf]; omega
    · obtain rfl : k = n := by omega
      have hne : ¬ ((k : Int) < (k : Int)) := by omega
      have HE := hide (show RP r s c k = We.R r s c from by unfold RP We.R; rw [HL.out])
      obtain ⟨a7, c7, rfl, hr7⟩ := row_of_owns hm.out.own
      rw [HE.out] at hr7
      have HN := hide (show New w a7 k c7 (We.R r s c) wr from ⟨hr7, hm.out.bel⟩)
      clear hr7 hm hlt
      go_wp2
      go_ret
      exact ⟨_, _, rfl, HN.out⟩
/-- Step's answer: the types, and the error. -/
def A9 (s r : Int) (c L : List Int) (E : Int) : Prop :=
  (¬ (1 ≤ r ∧ r ≤ 7) ∧ L = [] ∧ E = 2) ∨ ∃ j : Nat, j < 7 ∧ r = (j : Int) + 1 ∧ ((¬ We.Side s ∧ L = [] ∧ E = 2) ∨ (We.Side s ∧ ¬ We.Ok c ∧ L = [] ∧ E = 50) ∨ (We.Side s ∧ We.Ok c ∧ L = We.R (j + 1) s c ∧ E = 0))
theorem A9_some (s r : Int) (c : List Int) : ∃ L E, A9 s r c L E := by
  by_cases hr : 1 ≤ r ∧ r ≤ 7
  · have hj : (r - 1).toNat < 7 := by omega
    have he : r = ((r - 1).toNat : Int) + 1 := by omega
    by_cases hs : We.Side s
    · by_cases ho : We.Ok c
      · exact ⟨_, _, .inr ⟨_, hj, he, .inr (.inr ⟨hs, ho, rfl, rfl⟩)⟩⟩
      · exact ⟨_, _, .inr ⟨_, hj, he, .inr (.inl ⟨hs, ho, rfl, rfl⟩)⟩⟩
    · exact ⟨_, _, .inr ⟨_, hj, he, .inl ⟨hs, rfl, rfl⟩⟩⟩
  · exact ⟨_, _, .inl ⟨hr, rfl, rfl⟩⟩
theorem new_nil {w w' : World} (hk : KO w w') : New w none 0 0 [] w' := ⟨row_nil .i64 w', hk⟩
theorem step_any (ao : Option Addr) (n cap : Nat) (s r : Int) (c L : List Int) (E : Int) (w : World) (h : Row .i64 w ao n cap c) (hn : n * 8 ≤ 140737488351232) (hA : A9 s r c L E) :
    Calls Try.prog 10 #[.slice ao n cap, .int .i64 s, .int .i64 r] w fun e w' => ∃ a1 c1, e = .returned (.tuple #[.slice a1 L.length c1, .int .i64 E]) ∧ New w a1 L.length c1 L w' := by
  rcases hA with ⟨hr, rfl, rfl⟩ | ⟨j, hj, rfl, ⟨hs, rfl, rfl⟩ | ⟨hs, ho, rfl, rfl⟩ | ⟨hs, ho, rfl, rfl⟩⟩
  · exact (step_rule ao n cap s r w hr).mono fun e w' ⟨he, hk⟩ => ⟨none, 0, he, new_nil hk⟩
  · exact (step_side ao n cap s j hj w hs).mono fun e w' ⟨he, hk⟩ => ⟨none, 0, he, new_nil hk⟩
  · exact (step_form ao n cap s j hj c w h (by omega) hs ho).mono fun e w' ⟨he, hk⟩ => ⟨none, 0, he, new_nil hk⟩
  · refine (step_ok ao n cap s j hj c w h hn hs ho).mono fun e w' ⟨g, he, hN⟩ => ?_
    rw [We.R_len, h.len]
    exact ⟨_, n, he, hN⟩
theorem rstep_bad (ao : Option Addr) (n cap : Nat) (s r : Int) (w : World) (hb : ¬ We.Side s ∨ ¬ (1 ≤ r ∧ r ≤ 7)) :
    Calls Try.prog 11 #[.slice ao n cap, .int .i64 s, .int .i64 r] w fun e w' => e = .returned (.tuple #[.slice none 0 0, .int .i64 2]) ∧ w = w' := by
  have hc : (¬ s = 1 ∧ ¬ s = 2) ∨ (s = 1 ∧ r < 1) ∨ (s = 1 ∧ ¬ r < 1 ∧ 7 < r) ∨ (¬ s = 1 ∧ s = 2 ∧ r < 1) ∨ (¬ s = 1 ∧ s = 2 ∧ ¬ r < 1 ∧ 7 < r) := by unfold We.Side at hb; omega
  clear hb
  rcases hc with ⟨h1, h2⟩ | ⟨rfl, h2⟩ | ⟨rfl, h2, h3⟩ | ⟨h1, rfl, h2⟩ | ⟨h1, rfl, h2, h3⟩
  · have e1 : (s != 1) = true := bne_iff_ne.2 h1
    have e2 : (s != 2) = true := bne_iff_ne.2 h2
    clear h1 h2
    go_enter Try.func11, Try.ntmps11
    go_wp2
    go_ret2
    exact ⟨rfl, rfl⟩
  all_goals
    go_enter Try.func11, Try.ntmps11
    go_wp2
    go_ret2
    exact ⟨rfl, rfl⟩
theorem rstep_form (ao : Option Addr) (n cap : Nat) (s : Int) (j : Nat) (hj : j < 7) (c : List Int) (w : World) (h : Row .i64 w ao n cap c) (hn : n ≤ 400) (hs : We.Side s) (ho : ¬ We.Ok c) :
    Calls Try.prog 11 #[.slice ao n cap, .int .i64 s, .int .i64 ((j : Int) + 1)] w fun e w' => e = .returned (.tuple #[.slice none 0 0, .int .i64 50]) ∧ w = w' := by
  have HW := hide (rwrong_any ao n cap s c w h hn hs 50 (.inr ⟨ho, rfl⟩))
  have h1 : ¬ (j : Int) + 1 < 1 := by omega
  have h2 : ¬ 7 < (j : Int) + 1 := by omega
  have hs' := side_tests hs
  clear hs ho h
  rcases hs' with rfl | ⟨h1, rfl⟩
  all_goals
    go_enter Try.func11, Try.ntmps11
    go_wp2_with fail
    refine HW.out.mono ?_
    rintro e w' ⟨rfl, rfl⟩
    go_wp2
    go_ret2
    exact ⟨rfl, rfl⟩
theorem rstep_ok (ao : Option Addr) (n cap : Nat) (s : Int) (j : Nat) (hj : j < 7) (c : List Int) (w : World) (h : Row .i64 w ao n cap c) (hn : n ≤ 400) (hs : We.Side s) (ho : We.Ok c) :
    Calls Try.prog 11 #[.slice ao n cap, .int .i64 s, .int .i64 ((j : Int) + 1)] w fun e w' => ∃ a1 c1, e = .returned (.tuple #[.slice a1 n c1, .int .i64 0]) ∧ New w a1 n c1 (We.R (j + 1) s c) w' := by
  have HW := hide (rwrong_any ao n cap s c w h hn hs 0 (.inl ⟨ho, rfl⟩))
  have HR := hide (show Calls Try.prog 18 #[.slice ao n cap, .int .i64 s, .int .i64 ((j : Int) + 1)] w _ from rrule_any (j + 1) (by omega) (by omega) ao n cap s c w h hn hs)
  have h1 : ¬ (j : Int) + 1 < 1 := by omega
  have h2 : ¬ 7 < (j : Int) + 1 := by omega
  have hs' := side_tests hs
  clear hs ho h
  generalize We.R (j + 1) s c = Z at *
  rcases hs' with rfl | ⟨h1, rfl⟩
  all_goals
    go_enter Try.func11, Try.ntmps11
    go_wp2_with fail
    refine HW.out.mono ?_
    rintro e w' ⟨rfl, rfl⟩
    go_wp2_with fail
    refine HR.out.mono ?_
    rintro e w' ⟨a1, c1, rfl, hN⟩
    have HN := hide hN
    clear hN
    go_wp2
    go_ret2
    exact ⟨_, _, rfl, HN.out⟩
theorem rstep_any (ao : Option Addr) (n cap : Nat) (s r : Int) (c L : List Int) (E : Int) (w : World) (h : Row .i64 w ao n cap c) (hn : n ≤ 400) (hA : A9 s r c L E) :
    Calls Try.prog 11 #[.slice ao n cap, .int .i64 s, .int .i64 r] w fun e w' => ∃ a1 c1, e = .returned (.tuple #[.slice a1 L.length c1, .int .i64 E]) ∧ New w a1 L.length c1 L w' := by
  rcases hA with ⟨hr, rfl, rfl⟩ | ⟨j, hj, rfl, ⟨hs, rfl, rfl⟩ | ⟨hs, ho, rfl, rfl⟩ | ⟨hs, ho, rfl, rfl⟩⟩
  · exact (rstep_bad ao n cap s r w (.inr hr)).mono fun e w' ⟨he, hk⟩ => ⟨none, 0, he, new_nil (by rw [← hk]; exact KO.refl _)⟩
  · exact (rstep_bad ao n cap s _ w (.inl hs)).mono fun e w' ⟨he, hk⟩ => ⟨none, 0, he, new_nil (by rw [← hk]; exact KO.refl _)⟩
  · exact (rstep_form ao n cap s j hj c w h hn hs ho).mono fun e w' ⟨he, hk⟩ => ⟨none, 0, he, new_nil (by rw [← hk]; exact KO.refl _)⟩
  · refine (rstep_ok ao n cap s j hj c w h hn hs ho).mono fun e w' ⟨a1, c1, he, hN⟩ => ?_
    rw [We.R_len, h.len]
    exact ⟨_, _, he, hN⟩
/-- Resolve's answer. -/
def B9 (s : Int) (c L : List Int) (E : Int) : Prop :=
  (¬ We.Side s ∧ L = [] ∧ E = 2) ∨ (We.Side s ∧ ¬ We.Ok c ∧ L = [] ∧ E = 50) ∨ (We.Side s ∧ We.Ok c ∧ L = We.RR s c 7 ∧ E = 0)
theorem B9_some (s : Int) (c : List Int) : ∃ L E, B9 s c L E := by
  by_cases hs : We.Side s
  · by_cases ho : We.Ok c
    · exact ⟨_, _, .inr (.inr ⟨hs, ho, rfl, rfl⟩)⟩
    · exact ⟨_, _, .inr (.inl ⟨hs, ho, rfl, rfl⟩)⟩
  · exact ⟨_, _, .inl ⟨hs, rfl, rfl⟩⟩
theorem resolve_any (ao : Option Addr) (n cap : Nat) (s : Int) (c L : List Int) (E : Int) (w : World) (h : Row .i64 w ao n cap c) (hn : n * 8 ≤ 140737488351232) (hA : B9 s c L E) :
    Calls Try.prog 13 #[.slice ao n cap, .int .i64 s] w fun e w' => ∃ a1 c1, e = .returned (.tuple #[.slice a1 L.length c1, .int .i64 E]) ∧ New w a1 L.length c1 L w' := by
  rcases hA with ⟨hs, rfl, rfl⟩ | ⟨hs, ho, rfl, rfl⟩ | ⟨hs, ho, rfl, rfl⟩
  · exact (resolve_side ao n cap s w hs).mono fun e w' ⟨he, hk⟩ => ⟨none, 0, he, new_nil hk⟩
  · exact (resolve_form ao n cap s c w h (by omega) hs ho).mono fun e w' ⟨he, hk⟩ => ⟨none, 0, he, new_nil hk⟩
  · refine (resolve_ok ao n cap s c w h hn hs ho).mono fun e w' ⟨g, he, hN⟩ => ?_
    rw [We.RR_len, h.len]
    exact ⟨_, n, he, hN⟩
theorem rresolve_bad (ao : Option Addr) (n cap : Nat) (s : Int) (w : World) (E : Int) (h0 : ¬ E = 0) (hW : Calls Try.prog 17 #[.slice ao n cap, .int .i64 s] w fun e w' => e = .returned (.int .i64 E) ∧ w = w') :
    Calls Try.prog 14 #[.slice ao n cap, .int .i64 s] w fun e w' => e = .returned (.tuple #[.slice none 0 0, .int .i64 E]) ∧ w = w' := by
  have HW := hide hW
  have e0 : (E != 0) = true := bne_iff_ne.2 h0
  clear hW h0
  go_enter Try.func14, Try.ntmps14
  go_wp2_with fail
  refine HW.out.mono ?_
  rintro e w' ⟨rfl, rfl⟩
  go_wp2
  go_ret2
  exact ⟨rfl, rfl⟩
theorem rresolve_ok (ao : Option Addr) (n cap : Nat) (s : Int) (c : List Int) (w : World) (h : Row .i64 w ao n cap c) (hn : n ≤ 400) (hs : We.Side s) (ho : We.Ok c) :
    Calls Try.prog 14 #[.slice ao n cap, .int .i64 s] w fun e w' => ∃ a1 c1, e = .returned (.tuple #[.slice a1 n c1, .int .i64 0]) ∧ New w a1 n c1 (We.RR s c 7) w' := by
  have HW := hide (rwrong_any ao n cap s c w h hn hs 0 (.inl ⟨ho, rfl⟩))
  have HR := hide (fun (k : Nat) (hk : k < 7) (a1 : Option Addr) (c1 : Nat) (w' : World) (hr : Row .i64 w' a1 n c1 (We.RR s c k)) => (show Calls Try.prog 18 #[.slice a1 n c1, .int .i64 s, .int .i64 ((k : Int) + 1)] w' _ from rrule_any (k + 1) (by omega) (by omega) a1 n c1 s (We.RR s c k) w' hr hn hs))
  have H := hide h
  clear hs ho h
  go_enter Try.func14, Try.ntmps14
  go_wp2_with fail
  refine HW.out.mono ?_
  rintro e w' ⟨rfl, rfl⟩
  clear HW
  go_wp2
  go_loopw [0, 7] (fun v0 v7 wr => ∃ k : Nat, k ≤ 7 ∧ v7 = .int .i64 ((k : Int) + 1) ∧ ∃ a1 c1, v0 = .slice a1 n c1 ∧ Hid (New w a1 n c1 (We.RR s c k) wr)) (fun _ v7 _ => 8 - (intOf v7).toNat)
  case atStart => exact ⟨0, by omega, rfl, ao, cap, rfl, ⟨H.out, KO.refl _⟩⟩
  case round =>
    obtain ⟨k, hk, rfl, a1, c1, rfl, hN⟩ := hrel
    by_cases hlt : k < 7
    · have hle : (k : Int) + 1 ≤ 7 := by omega
      have HC := hide (HR.out k hlt a1 c1 wr hN.out.row)
      rw [← We.RR_succ] at HC
      go_wp2_with fail
      refine HC.out.mono ?_
      rintro e w3 ⟨a3, c3, rfl, hN3⟩
      have HN3 := hide (show New w a3 n c3 (We.RR s c (k + 1)) w3 from ⟨hN3.row, KO.on hN.out.bel hN3.bel⟩)
      clear HC hN hN3
      go_wp2
      go_roundw
      case rel => exact ⟨k + 1, by omega, by go_num, _, _, rfl, HN3⟩
      case measure => simp [intOf]; omega
    · obtain rfl : k = 7 := by omega
      clear hlt hk
      go_wp2
      go_ret2
      exact ⟨_, _, rfl, hN.out⟩
theorem rresolve_any (ao : Option Addr) (n cap : Nat) (s : Int) (c L : List Int) (E : Int) (w : World) (h : Row .i64 w ao n cap c) (hn : n ≤ 400) (hA : B9 s c L E) :
    Calls Try.prog 14 #[.slice ao n cap, .int .i64 s] w fun e w' => ∃ a1 c1, e = .returned (.tuple #[.slice a1 L.length c1, .int .i64 E]) ∧ New w a1 L.length c1 L w' := by
  rcases hA with ⟨hs, rfl, rfl⟩ | ⟨hs, ho, rfl, rfl⟩ | ⟨hs, ho, rfl, rfl⟩
  · exact (rresolve_bad ao n cap s w 2 (by omega) (rwrong_side ao n cap s w hs)).mono fun e w' ⟨he, hk⟩ => ⟨none, 0, he, new_nil (by rw [← hk]; exact KO.refl _)⟩
  · exact (rresolve_bad ao n cap s w 50 (by omega) (rwrong_any ao n cap s c w h hn hs 50 (.inr ⟨ho, rfl⟩))).mono fun e w' ⟨he, hk⟩ => ⟨none, 0, he, new_nil (by rw [← hk]; exact KO.refl _)⟩
  · refine (rresolve_ok ao n cap s c w h hn hs ho).mono fun e w' ⟨a1, c1, he, hN⟩ => ?_
    rw [We.RR_len, h.len]
    exact ⟨_, _, he, hN⟩
end Go.Proofs.Ytkajiagflcflpaa
