/- The runs of a range, told by a function over a range. -/
import Derived.Test.YtmcbldllbnjipaaRows
import Derived.Test.YtmcbldllbnjipaaKeep
import Derived.Test.YtmcbldllbnjipaaPn16
import Derived.Test.YtmcbldllbnjipaaRng
import Derived.Test.YtmcbldllbnjipaaRngC
import Derived.Test.YtmcbldllbnjipaaArgs
import Derived.Shelf.Abstract
import Derived.Shelf.RegionOpen
import Derived.WalkKit
import Derived.OwnWalkIn
import Derived.TacticsInMore
import Derived.LoopNIn
import Derived.LoopIn
namespace Go.Proofs.Ytmcbldllbnjipaa
open Go.RowKit Go.Shelf
set_option linter.unusedVariables false
set_option maxHeartbeats 1000000
set_option maxRecDepth 100000
attribute [local go_sem] Oper.semAt_some
namespace Pk
/-- A column whose place lies in the range. -/
def qc (L : List Int) (f t : Int) (k : Nat) : Bool := decide (f ≤ L.getD k 0 ∧ L.getD k 0 < t)
end Pk
theorem pbuild_pair (x y : Int) (w : World) : (Instr.build 39 #[(0, .int .i64 x), (1, .int .i64 y)]).run Try.prog w = .ok (.agg #[.int .i64 x, .int .i64 y]) w := run_build w 39 _ _ (by kernel_rfl)
/-- What a run is handed on as. -/
def encRun (x : Nat × Nat) : Array Value := #[.agg #[.int .i64 (x.1 : Int), .int .i64 (x.2 : Int)]]
structure MO (Bl Bf Bt : Nat) (ao : Option Addr) (n cap : Nat) (L : List Int) (f t : Int) (X : World) : Prop where
  l : X.cell? ⟨Bl, 0, none⟩ = some (.slice ao n cap)
  f : X.cell? ⟨Bf, 0, none⟩ = some (.int .i64 f)
  t : X.cell? ⟨Bt, 0, none⟩ = some (.int .i64 t)
  row : Row .i64 X ao n cap L
theorem marked1_any (c : Bool) (Rel : Nat → World → World → Prop) (hRel : ∀ B X Y, Rel B X Y → X.heap.size ≤ Y.heap.size) (Bl Bf Bt : Nat) (ao : Option Addr) (n cap : Nat) (L : List Int) (f t : Int) :
    SeqG c Rel Try.prog 27 #[.pointer (some ⟨Bl, 0, none⟩), .pointer (some ⟨Bf, 0, none⟩), .pointer (some ⟨Bt, 0, none⟩)] encRun (Pk.RU (Pk.qc L f t) n) (MO Bl Bf Bt ao n cap L f t) := by
  intro m y J Jx W hOk hJ hJx hY h0
  have hm0 := hOk _ _ h0
  have cB := hm0.l
  have hle := hm0.row.le
  have hmax := hm0.row.max
  have hlen := hm0.row.len
  unfold maxLen at hmax
  have hbd := pbuild_pair
  obtain ⟨q, hq⟩ : ∃ q, Pk.qc L f t = q := ⟨_, rfl⟩
  have HQ := hide hq
  rw [hq] at hY ⊢
  obtain ⟨R, hR⟩ : ∃ R, Pk.RU q n = R := ⟨_, rfl⟩
  have HPR : Hid (∀ k, k ≤ n → Pk.yl q k <+: R) := hide (fun k hk => by rw [← hR]; exact Pk.yl_all hk)
  have HEND : Hid (R = if Pk.sb q n < n then Pk.yl q n ++ [(Pk.sb q n, n)] else Pk.yl q n) := hide (by rw [← hR]; exact Pk.yl_end)
  rw [hR] at hY ⊢
  have HOK := hide hOk
  have HJ := hide hJ
  have HJX := hide hJx
  have HY := hide hY
  have H0 := hide h0
  have HLEN := hide hlen
  clear hOk hJ hJx hY h0 hm0 hlen hq hR
  refine callsIn_of_wp Try.func27 rfl trivial ?_
  simp only [Try.ntmps27, List.size_toArray, List.length_cons, List.length_nil, Nat.reduceAdd, Nat.reduceSub, Array.replicate_succ, Array.replicate_zero, List.push_toArray, List.append_toArray, List.nil_append, List.cons_append]
  gi_wp2
  gi_loopw [5, 10] (fun b p wr => ∃ k : Nat, k ≤ n ∧ p = .int .i64 (k : Int) ∧ b = .int .i64 (Pk.sb q k : Int) ∧ W.heap.size ≤ wr.heap.size ∧ Hid (J (Pk.yl q k) wr)) (fun _ p _ => n - (intOf p).toNat)
  case atStart => exact ⟨0, Nat.zero_le _, rfl, rfl, Nat.le_refl _, hide H0.out⟩
  case round =>
    obtain ⟨k, hk, rfl, rfl, hsz, hJk⟩ := hrel
    have hmk := HOK.out _ _ hJk.out
    have hsl := Pk.sb_le (q := q) k
    by_cases hlt : k < n
    · obtain ⟨b, off, rfl, hbl, hc⟩ := hmk.row.cells (by omega)
      have hck := hc k (by rw [HLEN.out]; exact hlt)
      have cf := hmk.f
      have ct := hmk.t
      have hin : (k : Int) < (n : Int) := by omega
      have hqk : q k = decide (f ≤ L.getD k 0 ∧ L.getD k 0 < t) := by rw [← HQ.out]; rfl
      obtain ⟨x, hx⟩ : ∃ x, L.getD k 0 = x := ⟨_, rfl⟩
      rw [hx] at hck hqk
      obtain ⟨s, hs⟩ : ∃ s, Pk.sb q k = s := ⟨_, rfl⟩
      have HS := hide hs
      rw [hs] at hsl ⊢
      clear hx hs hc hmk cB
      by_cases hin2 : f ≤ x ∧ x < t
      · obtain ⟨h1, h2⟩ := hin2
        have hqt : q k = true := by rw [hqk]; exact decide_eq_true ⟨h1, h2⟩
        have HSN := hide (Pk.sb_in hqt)
        have HYN := hide (Pk.yl_in hqt)
        clear hqk hqt
        gi_wp2
        go_roundw
        case rel => exact ⟨k + 1, by omega, by go_num, by rw [HSN.out, HS.out], hsz, by rw [HYN.out]; exact hJk⟩
        case measure => simp [intOf]; omega
      · have hqf : ¬ q k = true := by rw [hqk]; simpa using hin2
        have HSN := hide (Pk.sb_out hqf)
        have HYP := hide (Pk.yl_put hqf)
        have HYS := hide (Pk.yl_same hqf)
        have HPK := hide (HPR.out (k + 1) (by omega))
        have hor : (f ≤ x ∧ ¬ x < t) ∨ ¬ f ≤ x := by omega
        clear hqk hin2 hqf
        rcases hor with ⟨hf, ht⟩ | hf
        all_goals (
          by_cases hsk : s < k
          · have hski : (s : Int) < (k : Int) := by omega
            have h3 := HYP.out (by rw [HS.out]; exact hsk)
            rw [HS.out] at h3
            have hpre := HPK.out
            rw [h3] at hpre
            obtain ⟨fn, tmps, assign, body, hy, hR⟩ := HY.out (m - 1) _ (s, k) wr hJk.out hpre hsz
            have HY3 := hide h3
            rw [← h3] at hR
            unfold encRun at hy
            dsimp only at hy
            clear hpre h3
            gi_wp2_with fail
            refine ⟨fun h => (by cases h), ?_⟩
            refine hR.mono ?_
            rintro e W3 ⟨hbey, (⟨rfl, hJ3⟩ | ⟨rfl, hJx3⟩)⟩
            · have HJ3 := hide hJ3
              clear hJ3
              gi_wp2
              go_roundw
              case rel => exact ⟨k + 1, by omega, by go_num, by rw [HSN.out]; go_num, Nat.le_trans hsz (hRel _ _ _ hbey), HJ3⟩
              case measure => simp [intOf]; omega
            · gi_wp2
              refine bodyPost_ret (results_none rfl _ _ _) rfl ?_
              exact ⟨⟨_, rfl⟩, Nat.le_trans hsz (hRel _ _ _ hbey), .inr ⟨_, HPK.out, hJx3⟩⟩
          · have hski : ¬ (s : Int) < (k : Int) := by omega
            have h3 := hide (HYS.out (by rw [HS.out]; exact hsk))
            gi_wp2
            refine ⟨fun _ h => (by cases h), ?_⟩
            gi_wp2
            go_roundw
            case rel => exact ⟨k + 1, by omega, by go_num, by rw [HSN.out]; go_num, hsz, by rw [h3.out]; exact hJk⟩
            case measure => simp [intOf]; omega)
    · obtain rfl : k = n := by omega
      have hlt' : ¬ (k : Int) < (k : Int) := by omega
      obtain ⟨s, hs⟩ : ∃ s, Pk.sb q k = s := ⟨_, rfl⟩
      have hend := HEND.out
      rw [hs] at hsl hend ⊢
      by_cases hsk : s < k
      · have hski : (s : Int) < (k : Int) := by omega
        rw [if_pos hsk] at hend
        obtain ⟨fn, tmps, assign, body, hy, hR⟩ := HY.out (m - 1) _ (s, k) wr hJk.out (by rw [hend]; exact List.prefix_refl _) hsz
        rw [← hend] at hR
        unfold encRun at hy
        dsimp only at hy
        have cl := hmk.l
        clear hmk hs hend cB
        gi_wp2_with fail
        refine ⟨fun h => (by cases h), ?_⟩
        refine hR.mono ?_
        rintro e W3 ⟨hbey, (⟨rfl, hJ3⟩ | ⟨rfl, hJx3⟩)⟩
        · gi_wp2
          go_end0
          exact ⟨⟨_, rfl⟩, Nat.le_trans hsz (hRel _ _ _ hbey), .inl hJ3⟩
        · gi_wp2
          go_end0
          exact ⟨⟨_, rfl⟩, Nat.le_trans hsz (hRel _ _ _ hbey), .inr ⟨_, List.prefix_refl _, hJx3⟩⟩
      · have hski : ¬ (s : Int) < (k : Int) := by omega
        rw [if_neg hsk] at hend
        have cl := hmk.l
        have HE := hide hend
        clear hmk hs hend cB
        gi_wp2
        go_end0
        exact ⟨⟨_, rfl⟩, hsz, .inl (by rw [HE.out]; exact hJk.out)⟩
theorem marked1_far (Bl Bf Bt : Nat) (ao : Option Addr) (n cap : Nat) (L : List Int) (f t : Int) :
    SeqG true Far Try.prog 27 #[.pointer (some ⟨Bl, 0, none⟩), .pointer (some ⟨Bf, 0, none⟩), .pointer (some ⟨Bt, 0, none⟩)] encRun (Pk.RU (Pk.qc L f t) n) (MO Bl Bf Bt ao n cap L f t) := marked1_any true Far (fun _ _ _ h => h.size) Bl Bf Bt ao n cap L f t
theorem marked_any (ao : Option Addr) (n cap : Nat) (f t : Int) (w : World) :
    Calls Try.prog 17 #[.slice ao n cap, .int .i64 f, .int .i64 t] w fun e w' => e = .returned (.func (.func 27) #[] #[.pointer (some ⟨w.heap.size, 0, none⟩), .pointer (some ⟨w.heap.size + 1, 0, none⟩), .pointer (some ⟨w.heap.size + 2, 0, none⟩)]) ∧ w' = ((w.alloc (.cells #[.slice ao n cap] 22)).alloc (.cells #[.int .i64 f] 3)).alloc (.cells #[.int .i64 t] 3) := by
  go_enter Try.func17, Try.ntmps17
  go_wp2
  go_ret
  exact ⟨by simp, rfl⟩
end Go.Proofs.Ytmcbldllbnjipaa
