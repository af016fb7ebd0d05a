/- nearest: the side that was last met on a way, for either way (slices.All, slices.Backward). -/
import Derived.Test.YtbpjacalnipkgaaNs
import Derived.Test.YtbpjacalnipkgaaOwn
import Derived.Test.YtbpjacalnipkgaaRng
import Derived.Shelf.Abstract
import Derived.Shelf.RegionOpen
import Derived.WalkKit
import Derived.OwnWalkIn
import Derived.TacticsInMore
import Derived.LoopNIn
import Derived.LoopIn
namespace Go.Proofs.Ytbpjacalnipkgaa
open Go.RowKit Go.Shelf
set_option linter.unusedVariables false
set_option maxHeartbeats 1000000
set_option maxRecDepth 100000
attribute [local go_sem] Oper.semAt_some
theorem Row.ch {B : Nat} {X Y : World} (h : Ch true B X Y) {k : IntKind} {ao : Option Addr} {n cap : Nat} {t : List Int} (hr : Row k X ao n cap t) : Row k Y ao n cap t :=
  ⟨hr.len, hr.le, hr.max, fun h0 => by
    obtain ⟨b, off, e, hb, hc⟩ := hr.cells h0
    exact ⟨b, off, e, Nat.lt_of_lt_of_le hb h.below.size, fun i hi => h.cell (hc i hi)⟩, hr.nil⟩
/-- What a round is handed: a place, and what stands there. -/
def enc2 (x : Nat × Int) : Array Value := #[Value.int .i64 (x.1 : Int), Value.int .i64 x.2]
/-- slices.All's function. -/
theorem all1_seq (Bs : Nat) (ao : Option Addr) (n cap : Nat) (t : List Int) (hn : n ≤ 4611686018427387904) :
    Seq true Try.prog 29 #[.pointer (some ⟨Bs, 0, none⟩)] enc2 (Ne.ups t)
      (fun X => X.cell? ⟨Bs, 0, none⟩ = some (.slice ao n cap) ∧ Row .i64 X ao n cap t) := by
  intro m l J Jx W hOk hJ hJx hY h0
  obtain ⟨cB, hrow⟩ := hOk _ _ h0
  have hlen := hrow.len
  refine callsIn_of_wp Try.func29 rfl trivial ?_
  simp only [Try.ntmps29, List.size_toArray, List.length_cons, List.length_nil, Nat.reduceAdd, Nat.reduceSub, Array.replicate_succ, Array.replicate_zero, List.push_toArray, List.append_toArray, List.nil_append, List.cons_append]
  gi_wp2
  gi_loopw [7] (fun p wr => ∃ k : Nat, k ≤ n ∧ p = .int .i64 (k : Int) ∧ W.heap.size ≤ wr.heap.size ∧ J ((Ne.ups t).take k) wr) (fun p _ => n - (intOf p).toNat)
  case atStart => exact ⟨0, by omega, rfl, Nat.le_refl _, by simpa using h0⟩
  case round =>
    obtain ⟨k, hk, rfl, hsz, hJk⟩ := hrel
    obtain ⟨cB', hrow'⟩ := hOk _ _ hJk
    by_cases hlt : k < n
    · obtain ⟨b, off, hao, hbl, hc⟩ := hrow'.cells (by omega)
      have hci := hc k (by omega)
      have hin : (k : Int) < (n : Int) := by omega
      have hat := Ne.ups_at t (show k < t.length by omega)
      obtain ⟨p, hp⟩ : ∃ p, t.getD k 0 = p := ⟨_, rfl⟩
      rw [hp] at hci hat
      have htk := take_snoc' _ _ _ hat
      obtain ⟨fn, tmps, assign, body, hy, hR⟩ := hY (m - 1) _ (k, p) wr hJk (by rw [← htk]; exact prefix_take _ _) hsz
      rw [← htk] at hR
      dsimp only [enc2] at hy
      rw [hao] at cB'
      rw [hao]
      clear hat htk hp hc hrow' hrow cB hJk hao
      gi_wp2
      refine ⟨fun h => (by cases h), ?_⟩
      refine hR.mono ?_
      rintro e W3 ⟨hbey, (⟨rfl, hJ3⟩ | ⟨rfl, hJx3⟩)⟩
      · gi_wp2
        go_roundw
        case rel => exact ⟨k + 1, by omega, by go_num, Nat.le_trans hsz hbey.size, hJ3⟩
        case measure => simp [intOf]; omega
      · gi_wp2
        refine bodyPost_ret (results_none rfl _ _ _) rfl ?_
        exact ⟨⟨_, rfl⟩, Nat.le_trans hsz hbey.size, .inr ⟨_, prefix_take _ _, hJx3⟩⟩
    · obtain rfl : k = n := by omega
      have hne : ¬ ((k : Int) < (k : Int)) := by omega
      gi_wp2
      go_end0
      exact ⟨⟨_, rfl⟩, hsz, .inl (by rw [← hlen, ← Ne.ups_len, List.take_length] at hJk; exact hJk)⟩
/-- slices.Backward's function. -/
theorem back1_seq (Bs : Nat) (ao : Option Addr) (n cap : Nat) (t : List Int) (hn : n ≤ 4611686018427387904) :
    Seq true Try.prog 30 #[.pointer (some ⟨Bs, 0, none⟩)] enc2 (Ne.downs t)
      (fun X => X.cell? ⟨Bs, 0, none⟩ = some (.slice ao n cap) ∧ Row .i64 X ao n cap t) := by
  intro m l J Jx W hOk hJ hJx hY h0
  obtain ⟨cB, hrow⟩ := hOk _ _ h0
  have hlen := hrow.len
  refine callsIn_of_wp Try.func30 rfl trivial ?_
  simp only [Try.ntmps30, List.size_toArray, List.length_cons, List.length_nil, Nat.reduceAdd, Nat.reduceSub, Array.replicate_succ, Array.replicate_zero, List.push_toArray, List.append_toArray, List.nil_append, List.cons_append]
  have e1 : wrap64 ((n : Int) - 1) = (n : Int) - 1 := w64_small (by omega) (by omega)
  gi_wp2
  gi_loopw [3] (fun p wr => ∃ k : Nat, k ≤ n ∧ p = .int .i64 ((n : Int) - 1 - (k : Int)) ∧ W.heap.size ≤ wr.heap.size ∧ J ((Ne.downs t).take k) wr) (fun p _ => (intOf p + 1).toNat)
  case atStart => exact ⟨0, by omega, by simp, Nat.le_refl _, by simpa using h0⟩
  case round =>
    obtain ⟨k, hk, rfl, hsz, hJk⟩ := hrel
    obtain ⟨cB', hrow'⟩ := hOk _ _ hJk
    by_cases hlt : k < n
    · obtain ⟨i, hi⟩ : ∃ i : Nat, n - 1 - k = i := ⟨_, rfl⟩
      have hii : (n : Int) - 1 - (k : Int) = (i : Int) := by omega
      obtain ⟨b, off, hao, hbl, hc⟩ := hrow'.cells (by omega)
      have hci := hc i (by omega)
      have hin : (i : Int) < (n : Int) := by omega
      have hat := Ne.downs_at t (show k < t.length by omega)
      rw [hlen, hi] at hat
      obtain ⟨p, hp⟩ : ∃ p, t.getD i 0 = p := ⟨_, rfl⟩
      rw [hp] at hci hat
      have htk := take_snoc' _ _ _ hat
      obtain ⟨fn, tmps, assign, body, hy, hR⟩ := hY (m - 1) _ (i, p) wr hJk (by rw [← htk]; exact prefix_take _ _) hsz
      rw [← htk] at hR
      dsimp only [enc2] at hy
      rw [hii]
      rw [hao] at cB'
      have e2 : wrap64 ((i : Int) - 1) = (i : Int) - 1 := w64_small (by omega) (by omega)
      clear hat htk hp hc hrow' hrow cB hJk hao
      gi_wp2
      refine ⟨fun h => (by cases h), ?_⟩
      refine hR.mono ?_
      rintro e W3 ⟨hbey, (⟨rfl, hJ3⟩ | ⟨rfl, hJx3⟩)⟩
      · gi_wp2
        go_roundw
        case rel => exact ⟨k + 1, by omega, congrArg (Value.int .i64) (by omega), Nat.le_trans hsz hbey.size, hJ3⟩
        case measure => simp [intOf]
      · gi_wp2
        refine bodyPost_ret (results_none rfl _ _ _) rfl ?_
        exact ⟨⟨_, rfl⟩, Nat.le_trans hsz hbey.size, .inr ⟨_, prefix_take _ _, hJx3⟩⟩
    · obtain rfl : k = n := by omega
      have hii : (k : Int) - 1 - (k : Int) = -1 := by omega
      rw [hii]
      gi_wp2
      go_end0
      exact ⟨⟨_, rfl⟩, hsz, .inl (by rw [← hlen, ← Ne.downs_len, List.take_length] at hJk; exact hJk)⟩
theorem all_any (ao : Option Addr) (n cap : Nat) (w : World) :
    Calls Try.prog 22 #[.slice ao n cap] w fun e w' => e = .returned (.func (.func 29) #[] #[.pointer (some ⟨w.heap.size, 0, none⟩)]) ∧ w' = w.alloc (.cells #[.slice ao n cap] 22) := by
  go_enter Try.func22, Try.ntmps22
  go_wp2
  go_ret
  exact ⟨rfl, rfl⟩
theorem back_any (ao : Option Addr) (n cap : Nat) (w : World) :
    Calls Try.prog 23 #[.slice ao n cap] w fun e w' => e = .returned (.func (.func 30) #[] #[.pointer (some ⟨w.heap.size, 0, none⟩)]) ∧ w' = w.alloc (.cells #[.slice ao n cap] 22) := by
  go_enter Try.func23, Try.ntmps23
  go_wp2
  go_ret
  exact ⟨rfl, rfl⟩
end Go.Proofs.Ytbpjacalnipkgaa
