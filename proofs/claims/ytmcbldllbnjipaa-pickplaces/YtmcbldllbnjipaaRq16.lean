/- The document's Places, by contract. -/
import Derived.Test.YtmcbldllbnjipaaPm16
import Derived.Test.YtmcbldllbnjipaaRg13
import Derived.Deep.QuietTactic
import Derived.BigQuiet
namespace Go.Proofs.Ytmcbldllbnjipaa
open Go.RowKit
set_option linter.unusedVariables false
set_option maxHeartbeats 1000000
set_option maxRecDepth 100000
namespace Pk
/-- Has place i been met among the first k columns, in a run? -/
def mk (L : List Int) (Z : List (Int × Int)) (n i k : Nat) : Bool := (List.range k).any fun j => decide (L.getD j 0 = (i : Int)) && hz Z n (j : Int)
/-- What the document has told when it is at place i and column k. -/
def PK (L : List Int) (Z : List (Int × Int)) (n i k : Nat) : List Int := PL (pr L Z n) i ++ if mk L Z n i k = true then [(i : Int)] else []
section
variable {L : List Int} {Z : List (Int × Int)} {n i k : Nat}
theorem mk_succ : mk L Z n i (k + 1) = (mk L Z n i k || (decide (L.getD k 0 = (i : Int)) && hz Z n (k : Int))) := by
  unfold mk
  rw [List.range_succ, List.any_append]
  simp
theorem PK_zero : PK L Z n i 0 = PL (pr L Z n) i := by unfold PK mk; simp
theorem PK_no (h : ¬ (L.getD k 0 = (i : Int) ∧ hz Z n (k : Int) = true)) : PK L Z n i (k + 1) = PK L Z n i k := by
  have e : (decide (L.getD k 0 = (i : Int)) && hz Z n (k : Int)) = false := by
    rw [← Bool.not_eq_true, Bool.and_eq_true, decide_eq_true_iff]; exact h
  unfold PK
  rw [mk_succ, e, Bool.or_false]
theorem PK_yes {m : Int} (ho : Od.Orderly L m L.length) (hk : k < L.length) (h1 : L.getD k 0 = (i : Int)) (h2 : hz Z n (k : Int) = true) : PK L Z n i (k + 1) = PK L Z n i k ++ [(i : Int)] := by
  have e0 : mk L Z n i k = false := by
    rw [← Bool.not_eq_true]
    unfold mk
    rw [List.any_eq_true]
    rintro ⟨j, g1, g2⟩
    have g1 := List.mem_range.1 g1
    rw [Bool.and_eq_true, decide_eq_true_iff] at g2
    exact ho.once j k g1 hk (by rw [g2.1, h1])
  unfold PK
  rw [mk_succ, e0, h2, decide_eq_true h1]
  simp
theorem PK_end : PK L Z n i L.length = PL (pr L Z n) (i + 1) := by
  have e : mk L Z n i L.length = pr L Z n i := rfl
  unfold PK
  rw [e]
  by_cases h : pr L Z n i = true
  · rw [if_pos h, PL_in h]
  · rw [if_neg h, PL_out h, List.append_nil]
theorem PK_len : (PK L Z n i k).length ≤ i + 1 := by
  have := PL_len (pr L Z n) i
  unfold PK
  rw [List.length_append]
  split <;> simp <;> omega
theorem hz_step {j : Int} : hz Z (k + 1) j = (hz Z k j || decide ((Z.getD k (0, 0)).1 ≤ j ∧ j < (Z.getD k (0, 0)).2)) := by
  unfold hz
  rw [List.range_succ, List.any_append]
  simp
theorem hz_at {j : Int} (hk : k < n) (h : (Z.getD k (0, 0)).1 ≤ j ∧ j < (Z.getD k (0, 0)).2) : hz Z n j = true := hz_iff.2 ⟨k, hk, h.1, h.2⟩
end
end Pk
theorem rin_any (az : Option Addr) (n cap : Nat) (Z : List (Int × Int)) (j : Int) (w : World) (h : PI w az n cap Z) :
    Calls Try.prog 22 #[.slice az n cap, .int .i64 j] w fun e w' => e = .returned (.bool (Pk.hz Z n j)) ∧ w = w' := by
  have hle := h.le
  have hmx := h.max
  unfold maxLen at hmx
  have H := hide h
  obtain ⟨r, hr⟩ : ∃ r, Pk.hz Z n j = r := ⟨_, rfl⟩
  have HR := hide hr
  rw [hr]
  clear h hr
  go_enter Try.func22, Try.ntmps22
  go_wp2
  go_loop [5] (fun s5 => ∃ k : Nat, s5 = .int .i64 (k : Int) ∧ k ≤ n ∧ Hid (Pk.hz Z k j = false)) (fun s5 => n - (intOf s5).toNat)
  case atStart => exact ⟨0, rfl, Nat.zero_le _, hide rfl⟩
  case round =>
    obtain ⟨k, rfl, hk, hA⟩ := hrel
    by_cases hlt : k < n
    · have hin : (k : Int) < (n : Int) := by omega
      obtain ⟨b, off, rfl, hb, hc⟩ := H.out.cells (by omega)
      have c0 := (hc k hlt).1
      have c1 := (hc k hlt).2
      have HS := hide (Pk.hz_step (Z := Z) (k := k) (j := j))
      have HY := hide (Pk.hz_at (Z := Z) (n := n) (k := k) (j := j) hlt)
      clear hc
      generalize (Z.getD k (0, 0)).1 = x at *
      generalize (Z.getD k (0, 0)).2 = y at *
      by_cases h1 : x ≤ j
      · by_cases h2 : j < y
        · obtain rfl : r = true := by rw [← HR.out]; exact HY.out ⟨h1, h2⟩
          go_wp2
          go_ret
          exact ⟨rfl, rfl⟩
        · have HN : Hid (Pk.hz Z (k + 1) j = false) := hide (by rw [HS.out, hA.out, decide_eq_false (by omega)]; rfl)
          clear hA HS HY
          go_wp2
          go_round
          case rel => exact ⟨k + 1, by go_num, by omega, HN⟩
          case measure => simp [intOf]; omega
      · have HN : Hid (Pk.hz Z (k + 1) j = false) := hide (by rw [HS.out, hA.out, decide_eq_false (by omega)]; rfl)
        clear hA HS HY
        go_wp2
        go_round
        case rel => exact ⟨k + 1, by go_num, by omega, HN⟩
        case measure => simp [intOf]; omega
    · obtain rfl : n = k := by omega
      have hne : ¬ (n : Int) < (n : Int) := by omega
      obtain rfl : r = false := by rw [← HR.out]; exact hA.out
      go_wp2
      go_ret
      exact ⟨rfl, rfl⟩
end Go.Proofs.Ytmcbldllbnjipaa
