/- Paragraphs, told by a function over a range. -/
import Derived.Test.YteiljaecaahonaaRows
import Derived.Test.YteiljaecaahonaaKeep
import Derived.Test.YteiljaecaahonaaSp
import Derived.Test.YteiljaecaahonaaCls
import Derived.Test.YteiljaecaahonaaRng
import Derived.Test.YteiljaecaahonaaRngC
import Derived.Shelf.Abstract
import Derived.Shelf.RegionOpen
import Derived.WalkKit
import Derived.OwnWalkIn
import Derived.TacticsInMore
import Derived.LoopNIn
import Derived.LoopIn
namespace Go.Proofs.Yteiljaecaahonaa
open Go.RowKit Go.Shelf
set_option linter.unusedVariables false
set_option maxHeartbeats 1000000
set_option maxRecDepth 100000
attribute [local go_sem] Oper.semAt_some
/-- Where paragraph k begins and ends. -/
def parAt (l : List Int) (k : Nat) : Nat × Nat := (bh l k, bh l (k + 1))
def pars (l : List Int) : List (Nat × Nat) := (List.range (seps l + 1)).map (parAt l)
theorem pars_len (l : List Int) : (pars l).length = seps l + 1 := by simp [pars]
theorem pars_at (l : List Int) (k : Nat) (h : k ≤ seps l) : (pars l)[k]? = some (parAt l k) := by
  unfold pars; rw [List.getElem?_map, List.getElem?_range (by omega)]; rfl
theorem seps_snoc (l : List Int) (i : Nat) (h : i < l.length) : seps (l.take (i + 1)) = seps (l.take i) + sep (l.getD i 0) := by
  rw [List.take_succ_eq_append_getElem h, seps_append]
  simp [List.getD, List.getElem?_eq_getElem h]
theorem bh_at (l : List Int) (i : Nat) (h : i < l.length) (hs : sep (l.getD i 0) = 1) : bh l (seps (l.take i) + 1) = i + 1 := by
  have e : l = l.take i ++ l.getD i 0 :: l.drop (i + 1) := by
    have e1 : l.getD i 0 = l[i] := by simp [List.getD, List.getElem?_eq_getElem h]
    rw [e1, ← List.drop_eq_getElem_cons h, List.take_append_drop]
  have h2 := bh_node (l.take i) (l.getD i 0) (l.drop (i + 1)) (seps (l.take i) + 1) (by omega)
  rw [← e, hs, Nat.sub_self, bh_zero, List.length_take] at h2
  rw [h2]; omega
theorem sep_yes {x : Int} (h : Ucd.cls x = 11) : sep x = 1 := by unfold sep; rw [if_pos h]
theorem sep_no {x : Int} (h : ¬ Ucd.cls x = 11) : sep x = 0 := by unfold sep; rw [if_neg h]
theorem build_pair (x y : Int) (w : World) : (Instr.build 93 #[(0, .int .i64 x), (1, .int .i64 y)]).run Try.prog w = .ok (.agg #[.int .i64 x, .int .i64 y]) w := run_build w 93 _ _ (by kernel_rfl)
/-- What a paragraph is handed on as. -/
def encPar (x : Nat × Nat) : Array Value := #[.agg #[.int .i64 (x.1 : Int), .int .i64 (x.2 : Int)]]
theorem pars1_any (c : Bool) (Rel : Nat → World → World → Prop) (hRel : ∀ B X Y, Rel B X Y → X.heap.size ≤ Y.heap.size) (Bl : Nat) (ao : Option Addr) (n cap : Nat) (l : List Int) (hf : ∀ x ∈ l, (Lit.int .i32 x).wf = true) :
    SeqG c Rel Try.prog 60 #[.pointer (some ⟨Bl, 0, none⟩)] encPar (pars l) (fun X => X.cell? ⟨Bl, 0, none⟩ = some (.slice ao n cap) ∧ Row .i32 X ao n cap l) := by
  intro m y J Jx W hOk hJ hJx hY h0
  obtain ⟨cB, hrow⟩ := hOk _ _ h0
  have hlen := hrow.len
  have hle := hrow.le
  have hmax := hrow.max
  unfold maxLen at hmax
  have hbd := build_pair
  have HOK := hide hOk
  have HJ := hide hJ
  have HJX := hide hJx
  have HY := hide hY
  have H0 := hide h0
  have HLEN := hide hlen
  have HF := hide hf
  clear hOk hJ hJx hY h0 hrow hlen hf
  refine callsIn_of_wp Try.func60 rfl trivial ?_
  simp only [Try.ntmps60, List.size_toArray, List.length_cons, List.length_nil, Nat.reduceAdd, Nat.reduceSub, Array.replicate_succ, Array.replicate_zero, List.push_toArray, List.append_toArray, List.nil_append, List.cons_append]
  gi_wp2
  gi_loopw [3, 8] (fun b p wr => ∃ i : Nat, i ≤ n ∧ p = .int .i64 (i : Int) ∧ b = .int .i64 (bh l (seps (l.take i)) : Int) ∧ W.heap.size ≤ wr.heap.size ∧ Hid (J ((pars l).take (seps (l.take i))) wr)) (fun _ p _ => n - (intOf p).toNat)
  case atStart => exact ⟨0, by omega, rfl, by simp, Nat.le_refl _, hide (by simpa using H0.out)⟩
  case round =>
    obtain ⟨i, hi, rfl, rfl, hsz, hJk⟩ := hrel
    obtain ⟨cB', hrow'⟩ := HOK.out _ _ hJk.out
    obtain ⟨k, hk⟩ : ∃ k, seps (l.take i) = k := ⟨_, rfl⟩
    obtain ⟨f, hf⟩ : ∃ f, bh l k = f := ⟨_, rfl⟩
    have hfn : f ≤ n := by rw [← hf, ← HLEN.out]; exact bh_le l k
    have hkl : k ≤ seps l := by rw [← hk]; exact seps_take_le l i
    rw [hk] at hJk
    rw [hk, hf]
    by_cases hlt : i < n
    · obtain ⟨b, off, rfl, hbl, hc⟩ := hrow'.cells (by omega)
      have hci := hc i (by rw [HLEN.out]; exact hlt)
      have hxl : l.getD i 0 ∈ l := by
        have h2 : i < l.length := by rw [HLEN.out]; exact hlt
        rw [show l.getD i 0 = l[i] from by simp [List.getD, List.getElem?_eq_getElem h2]]; exact List.getElem_mem _
      have hxf := HF.out _ hxl
      have HSN := hide (seps_snoc l i (by rw [HLEN.out]; exact hlt))
      have HBA := hide (bh_at l i (by rw [HLEN.out]; exact hlt))
      rw [hk] at HSN HBA
      obtain ⟨x, hx⟩ : ∃ x, l.getD i 0 = x := ⟨_, rfl⟩
      rw [hx] at hci hxf HSN HBA
      have hin : (i : Int) < (n : Int) := by omega
      have e1 : wrap64 ((i : Int) + 1) = ((i + 1 : Nat) : Int) := w64_nat (by omega) (by omega)
      have HC := hide (class_any x wr hxf)
      have HK := hide hk
      have HFF := hide hf
      have HKL := hide hkl
      clear hrow' hc hxl hxf hx cB hk hf hkl
      gi_wp2_with fail
      refine ⟨trivial, fun h => (by cases h), ?_⟩
      refine (callsIn_wide.2 HC.out).mono ?_
      rintro e w2 ⟨rfl, hb2⟩
      have hj2 : J ((pars l).take k) w2 := HJ.out _ _ _ hJk.out ⟨hb2.mono hsz, fun _ q o hq _ => (hb2.block q (Array.getElem?_eq_some_iff.1 hq).1).trans hq⟩
      have hsz2 : W.heap.size ≤ w2.heap.size := Nat.le_trans hsz hb2.size
      obtain ⟨cx, hcx⟩ : ∃ cx, Ucd.cls x = cx := ⟨_, rfl⟩
      rw [hcx]
      by_cases h11 : cx = 11
      · have hs1 := sep_yes (hcx.trans h11)
        have hsn := HSN.out
        have hba := HBA.out hs1
        rw [hs1] at hsn
        have hkk : k + 1 ≤ seps l := by rw [← hsn]; exact seps_take_le l _
        have hat := take_snoc' _ _ _ (pars_at l k HKL.out)
        have hpa : parAt l k = (f, i + 1) := by unfold parAt; rw [HFF.out, hba]
        rw [hpa] at hat
        obtain ⟨fn, tmps, assign, body, hy, hR⟩ := HY.out (m - 1) _ (f, i + 1) w2 hj2 (by rw [← hat]; exact prefix_take _ _) hsz2
        rw [← hat] at hR
        unfold encPar at hy
        dsimp only at hy
        rw [show ((i + 1 : Nat) : Int) = (i : Int) + 1 from by omega] at hy
        subst h11
        have HSN2 := hide hsn
        have HBA2 := hide hba
        clear hs1 hsn hba hkk hat hpa hcx hb2 hj2
        gi_wp2_with fail
        refine ⟨fun h => (by cases h), ?_⟩
        refine hR.mono ?_
        rintro e W3 ⟨hbey, (⟨rfl, hJ3⟩ | ⟨rfl, hJx3⟩)⟩
        · have HJ3 := hide hJ3
          clear hJ3
          gi_wp2
          go_roundw
          case rel => exact ⟨i + 1, by omega, by go_num, by rw [HSN2.out, HBA2.out]; go_num, Nat.le_trans hsz2 (hRel _ _ _ hbey), by rw [HSN2.out]; exact HJ3⟩
          case measure => simp [intOf]; omega
        · gi_wp2
          refine bodyPost_ret (results_none rfl _ _ _) rfl ?_
          exact ⟨⟨_, rfl⟩, Nat.le_trans hsz2 (hRel _ _ _ hbey), .inr ⟨_, prefix_take _ _, hJx3⟩⟩
      · have hs0 := sep_no (x := x) (by rw [hcx]; exact h11)
        have hsn := HSN.out
        rw [hs0] at hsn
        have HSN2 := hide hsn
        have HJ2 := hide hj2
        clear hs0 hsn hcx hb2 hj2
        gi_wp2
        go_roundw
        case rel => exact ⟨i + 1, by omega, by go_num, by rw [HSN2.out, Nat.add_zero, HFF.out], hsz2, by rw [HSN2.out]; exact HJ2⟩
        case measure => simp [intOf]; omega
    · obtain rfl : i = n := by omega
      have hks : k = seps l := by rw [← hk, List.take_of_length_le (by rw [HLEN.out]; exact Nat.le_refl _)]
      have hat := take_snoc' _ _ _ (pars_at l k hkl)
      have hpa : parAt l k = (f, i) := by unfold parAt; rw [hf, bh_end l (k + 1) (by omega), HLEN.out]
      rw [hpa] at hat
      have hall : (pars l).take (k + 1) = pars l := List.take_of_length_le (by rw [pars_len]; omega)
      obtain ⟨fn, tmps, assign, body, hy, hR⟩ := HY.out (m - 1) _ (f, i) wr hJk.out (by rw [← hat]; exact prefix_take _ _) hsz
      rw [← hat, hall] at hR
      unfold encPar at hy
      dsimp only at hy
      clear hrow' hk hf hkl hks hat hpa hall cB
      gi_wp2_with fail
      refine ⟨fun h => (by cases h), ?_⟩
      refine hR.mono ?_
      rintro e W3 ⟨hbey, (⟨rfl, hJ3⟩ | ⟨rfl, hJx3⟩)⟩
      · gi_wp2
        go_end0
        exact ⟨⟨_, rfl⟩, Nat.le_trans hsz (hRel _ _ _ hbey), .inl hJ3⟩
      · gi_wp2
        go_end0
        exact ⟨⟨_, rfl⟩, Nat.le_trans hsz (hRel _ _ _ hbey), .inr ⟨_, List.prefix_refl _, hJx3⟩⟩
theorem pars1_seq (c : Bool) (Bl : Nat) (ao : Option Addr) (n cap : Nat) (l : List Int) (hf : ∀ x ∈ l, (Lit.int .i32 x).wf = true) :
    Seq c Try.prog 60 #[.pointer (some ⟨Bl, 0, none⟩)] encPar (pars l) (fun X => X.cell? ⟨Bl, 0, none⟩ = some (.slice ao n cap) ∧ Row .i32 X ao n cap l) := pars1_any c Beyond (fun _ _ _ h => h.size) Bl ao n cap l hf
theorem pars1_far (Bl : Nat) (ao : Option Addr) (n cap : Nat) (l : List Int) (hf : ∀ x ∈ l, (Lit.int .i32 x).wf = true) :
    SeqG true Far Try.prog 60 #[.pointer (some ⟨Bl, 0, none⟩)] encPar (pars l) (fun X => X.cell? ⟨Bl, 0, none⟩ = some (.slice ao n cap) ∧ Row .i32 X ao n cap l) := pars1_any true Far (fun _ _ _ h => h.size) Bl ao n cap l hf
theorem pars_any (ao : Option Addr) (n cap : Nat) (w : World) :
    Calls Try.prog 52 #[.slice ao n cap] w fun e w' => e = .returned (.func (.func 60) #[] #[.pointer (some ⟨w.heap.size, 0, none⟩)]) ∧ w' = w.alloc (.cells #[.slice ao n cap] 22) := by
  go_enter Try.func52, Try.ntmps52
  go_wp2
  go_ret
  exact ⟨rfl, rfl⟩
end Go.Proofs.Yteiljaecaahonaa
