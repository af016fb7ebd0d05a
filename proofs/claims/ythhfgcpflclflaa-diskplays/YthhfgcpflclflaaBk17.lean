/- What waits, from its end on: slices.Backward of writes. -/
import Derived.Test.YthhfgcpflclflaaIt17
namespace Go.Proofs.Ythhfgcpflclflaa
open Go.RowKit Go.Shelf
set_option linter.unusedVariables false
set_option maxHeartbeats 1000000
set_option maxRecDepth 100000
attribute [local go_sem] Oper.semAt_some
/-- Writes from the last one on, each with its place. -/
def dn (ws : List (Nat × List Int)) : List (Nat × (Nat × List Int)) := (List.range ws.length).map fun k => (ws.length - 1 - k, ws.getD (ws.length - 1 - k) (0, []))
theorem dn_len (ws : List (Nat × List Int)) : (dn ws).length = ws.length := by simp [dn]
theorem dn_at (ws : List (Nat × List Int)) {k : Nat} (h : k < ws.length) : (dn ws)[k]? = some (ws.length - 1 - k, ws.getD (ws.length - 1 - k) (0, [])) := by
  unfold dn
  rw [List.getElem?_map, List.getElem?_range h]
  rfl
/-- What a place and its write are handed on as. -/
def encb (x : Nat × (Nat × List Int)) : Array Value := #[.int .i64 (x.1 : Int), .agg (x6 x.2).toArray]
structure BO (B : Nat) (aw : Option Addr) (cw : Nat) (ws : List (Nat × List Int)) (X : World) : Prop where
  box : X.cell? ⟨B, 0, none⟩ = some (.slice aw ws.length cw)
  row : ∀ k, k < ws.length → ∃ gw, aw = some ⟨gw, 0, none⟩ ∧ X.rangeAt gw (k * 65) (xe (ws.getD k (0, [])))
theorem pback1_any (c : Bool) (Rel : Nat → World → World → Prop) (hRel : ∀ B X Y, Rel B X Y → X.heap.size ≤ Y.heap.size) (B : Nat) (aw : Option Addr) (cw : Nat) (ws : List (Nat × List Int)) (hws : ∀ x ∈ ws, (xe x).length = 65) (hle : ws.length ≤ cw) (hcw : cw ≤ 2 ^ 63 - 1) :
    SeqG c Rel Try.prog 45 #[.pointer (some ⟨B, 0, none⟩)] encb (dn ws) (BO B aw cw ws) := by
  intro m y J Jx W hOk hJ hJx hY h0
  have hm0 := hOk _ _ h0
  have cB := hm0.box
  have HOK := hide hOk
  have HY := hide hY
  have H0 := hide h0
  have HWS := hide hws
  have HDL := hide (dn_len ws)
  have HDA := hide (fun k (q : k < ws.length) => dn_at ws q)
  obtain ⟨L, hL⟩ : ∃ L, dn ws = L := ⟨_, rfl⟩
  rw [hL] at HDL HDA HY ⊢
  obtain ⟨n, hn⟩ : ∃ n, ws.length = n := ⟨_, rfl⟩
  have HN := hide hn
  rw [hn] at cB hle HDL HDA
  have e1 : wrap64 ((n : Int) - 1) = (n : Int) - 1 := w64_small (by omega) (by omega)
  clear hOk hJ hJx hY h0 hm0 hn hws hL
  refine callsIn_of_wp Try.func45 rfl trivial ?_
  simp only [Try.ntmps45, List.size_toArray, List.length_cons, List.length_nil, Nat.reduceAdd, Nat.reduceSub, Array.replicate_succ, Array.replicate_zero, List.push_toArray, List.append_toArray, List.nil_append, List.cons_append]
  gi_wp2
  gi_loopw [3] (fun p wr => ∃ k : Nat, k ≤ n ∧ p = .int .i64 ((n : Int) - 1 - (k : Int)) ∧ W.heap.size ≤ wr.heap.size ∧ Hid (J (L.take k) wr)) (fun p _ => (intOf p + 1).toNat)
  case atStart => exact ⟨0, by omega, by simp, Nat.le_refl _, hide H0.out⟩
  case round =>
    obtain ⟨k, hk, rfl, hsz, hJk⟩ := hrel
    have hmk := HOK.out _ _ hJk.out
    clear cB
    have cB := hmk.box
    rw [HN.out] at cB
    by_cases hlt : k < n
    · obtain ⟨i, hi⟩ : ∃ i : Nat, n - 1 - k = i := ⟨_, rfl⟩
      have hii : (n : Int) - 1 - (k : Int) = (i : Int) := by omega
      obtain ⟨gw, rfl, hr⟩ := hmk.row i (by rw [HN.out]; omega)
      have hlen := HWS.out _ (Dk.wait_at (ws := ws) (k := i) (by rw [HN.out]; omega))
      have hat := HDA.out k hlt
      rw [hi] at hat
      have hin : (i : Int) < (n : Int) := by omega
      obtain ⟨x, hx⟩ : ∃ x, ws.getD i (0, []) = x := ⟨_, rfl⟩
      rw [hx] at hr hlen hat
      have HTK := hide (take_snoc' _ _ _ hat)
      have hpre : L.take k ++ [(i, x)] <+: L := by rw [← HTK.out]; exact List.take_prefix _ _
      obtain ⟨fn, tmps, assign, body, hy, hR⟩ := HY.out (m - 1) _ (i, x) _ hJk.out hpre hsz
      have HXL : Hid ((Try.prog.info? 82).map (·.size) = some (xe x).length) := hide (by rw [hlen]; exact pwrite_size)
      have HR := hide hr
      have HRR := hide hR
      unfold encb at hy
      dsimp only at hy
      rw [x6_eq hlen] at hy
      rw [hii]
      have e2 : wrap64 ((i : Int) - 1) = (i : Int) - 1 := w64_small (by omega) (by omega)
      clear hx hat hlen hr hR hmk hi
      gi_wp2_with (refine wpListIn_load_mid rfl 82 _ rfl gw (i * 65) rfl (xe x) _ HR.out Try.underlying82 rfl HXL.out ?_)
      refine ⟨fun h => (by cases h), ?_⟩
      refine HRR.out.mono ?_
      rintro e W3 ⟨hbey, (⟨rfl, hJ3⟩ | ⟨rfl, hJx3⟩)⟩
      · have HJ3 := hide hJ3
        clear hJ3
        gi_wp2
        go_roundw
        case rel => exact ⟨k + 1, by omega, congrArg (Value.int .i64) (by omega), Nat.le_trans hsz (hRel _ _ _ hbey), by rw [HTK.out]; exact HJ3⟩
        case measure => simp [intOf]
      · gi_wp2
        refine bodyPost_ret (results_none rfl _ _ _) rfl ?_
        exact ⟨⟨_, rfl⟩, Nat.le_trans hsz (hRel _ _ _ hbey), .inr ⟨_, hpre, hJx3⟩⟩
    · obtain rfl : k = n := by omega
      have hii : (k : Int) - 1 - (k : Int) = -1 := by omega
      rw [hii]
      clear hmk
      gi_wp2
      go_end0
      exact ⟨⟨_, rfl⟩, hsz, .inl (by have := hJk.out; rw [List.take_of_length_le (by rw [HDL.out]; exact Nat.le_refl _)] at this; exact this)⟩
theorem pback_any (aw : Option Addr) (n cw : Nat) (w : World) :
    Calls Try.prog 43 #[.slice aw n cw] w fun e w' => e = .returned (.func (.func 45) #[] #[.pointer (some ⟨w.heap.size, 0, none⟩)]) ∧ w' = w.alloc (.cells #[.slice aw n cw] 40) := by
  go_enter Try.func43, Try.ntmps43
  go_wp2
  go_ret
  exact ⟨rfl, rfl⟩
end Go.Proofs.Ythhfgcpflclflaa
