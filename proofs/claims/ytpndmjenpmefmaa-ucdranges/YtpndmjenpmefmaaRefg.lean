/- The contract of the document's own Ranges (colophonref03.Ranges): a list of all the rows, appended one by one. -/
import Derived.Test.YtpndmjenpmefmaaRows
import Derived.Test.YtpndmjenpmefmaaUc
import Derived.Test.YtpndmjenpmefmaaArgs
import Derived.Test.YtpndmjenpmefmaaRefr
import Derived.Test.YtpndmjenpmefmaaRngs
import Derived.WalkKit
import Derived.WalkSpells
import Derived.WalkLawsBesides
import Derived.Outline
import Derived.Deep.RegionHeld3
import Derived.Deep.RegionHeldLaw
namespace Go.Proofs.Ytpndmjenpmefmaa
open Go.RowKit
set_option linter.unusedVariables false
set_option maxHeartbeats 1000000
set_option maxRecDepth 100000
def KM (B : Nat) (w0 w : World) : Prop := Below B w0 w
theorem KM.drew {B : Nat} {w0 w : World} (h : KM B w0 w) : KM B w0 w.drew := Below.drew h
theorem step_append3 {P : Program} (w : World) {ops : Array Oper} {o : Oper} {a : Act} {K : Act → World → Prop} {Q : Exit → Act → World → Prop} {E : Prop} (hgd : o.guard = none) (s x : Operand) (t : TypeId)
    (ho : o.op = .call { callee := .builtin .append, args := #[s, x], argTypes := #[t, t] })
    (base : Nat) (e : TypeId) (i : TypeInfo) (z : Value) (ht : P.underlying t = some (.slice e)) (hi : P.info? e = some i) (hz : i.zero = some z)
    (hsize : i.size = 3) (hby : i.bytes = 16) (hzs : z.cells.size = 3)
    (v : Value) (n : Nat) (xs : List Value) (hs : a.eval s = v) (p q c : Value) (hown : w.ownsRow base e 3 v n xs)
    (hx : a.eval x = .slice (some ⟨w.heap.size, 0, none⟩) 1 1) (h1 : ∀ u ∈ [p, q, c], u.oneCell' = true)
    (hn : n ≤ 1000) (hbase : base ≤ w.heap.size)
    (h : ∀ v' w', w'.ownsRow base e 3 v' (n + 1) (xs ++ [p, q, c]) → Below base w w' → K (a.put o.dst v') w') :
    if Region.wanted o (yielded ops a.tmps) = true then Oper.wp P o a (w.alloc (.cells #[p, q, c] e)) K Q else E := by
  have hw : Region.wanted o (yielded ops a.tmps) = true := by simp [Region.wanted, hgd]
  rw [if_pos hw]
  have hown' := hown.alloc (.cells #[p, q, c] e)
  refine wp_append_own _ s x t ho base e i z 3 16 ht hi hz hsize hby hzs (by decide) v n xs hs hown' ⟨w.heap.size, 0, none⟩ 1 1 [p, q, c] hx rfl ?_ h1 (by unfold maxLen; omega) (by omega) (by simp; omega) (fun v' w' g1 g2 _ => h v' w' g1 ?_)
  · intro j u hj
    have hadd : (⟨w.heap.size, 0, none⟩ : Addr).add j = ⟨w.heap.size, j, none⟩ := by unfold Addr.add; split <;> simp_all
    rw [hadd]
    unfold World.cell?
    rw [heap_alloc_last]
    show (#[p, q, c] : Array Value)[j]? = some u
    rw [← hj]
    simp
  · exact ((Below.refl base w).alloc hbase _).grown g2 (by simp; omega) (fun j hj => (hown'.lt j hj).1)
theorem flat_snoc {V : Type} (f : Ucd.Rg → List V) (l : List Ucd.Rg) (i : Nat) (h : i < l.length) : Ucd.flat f (l.take (i + 1)) = Ucd.flat f (l.take i) ++ f (l.getD i (0, 0, 0)) := by
  rw [List.take_succ_eq_append_getElem h]
  rw [Ucd.flat, Ucd.flat, List.flatMap_append]
  simp [List.getD, List.getElem?_eq_getElem h]
theorem build_range (x y z : Int) (w : World) : (Instr.build 28 #[(0, .int .i32 x), (1, .int .i32 y), (2, .int .i64 z)]).run Try.prog w = .ok (.agg #[.int .i32 x, .int .i32 y, .int .i64 z]) w := run_build w 28 _ _ (by kernel_rfl)
theorem rangeFull : (Try.prog.info? 28).map (fun i => (i.zero, i.size, i.bytes)) = some (some (.agg #[.int .i32 0, .int .i32 0, .int .i64 0]), 3, 16) := by kernel_rfl
theorem build_one (x y z : Int) (w : World) : (Instr.buildSlice 25 1 #[(0, .agg #[.int .i32 x, .int .i32 y, .int .i64 z])]).run Try.prog w = .ok (.slice (some ⟨w.heap.size, 0, none⟩) 1 1) (w.alloc (.cells #[.int .i32 x, .int .i32 y, .int .i64 z] 28)) := by
  have hq := rangeFull
  cases hi : Try.prog.info? 28 with
  | none => rw [hi] at hq; cases hq
  | some ie =>
    rw [hi] at hq
    simp only [Option.map_some, Option.some.injEq, Prod.mk.injEq] at hq
    refine run_buildSlice w 25 28 1 _ _ ie _ Try.underlying25 hi hq.1 (by rw [hq.2.1]; decide) (by rw [hq.2.1]; decide) ?_
    rw [hq.2.1]
    kernel_rfl
theorem wrap_rune {x : Int} (h : 0 ≤ x ∧ x ≤ 1114111) : IntKind.i32.wrap x = x := by
  rw [IntKind.wrap_i32]; omega
theorem rranges_any (w : World) : Calls Try.prog 9 #[] w fun e w' => ∃ b cap cur, e = .returned (.slice (some ⟨b, 0, none⟩) 147 cap) ∧ Below w.heap.size w w' ∧ w.heap.size ≤ b ∧ b < w'.heap.size ∧ w'.heap[b]? = some (.cells cur 28 (0, 0)) ∧ (∀ j, j < 441 → cur[j]? = tableCells[j]?) := by
  have hq := rangeFull
  cases hi : Try.prog.info? 28 with
  | none => rw [hi] at hq; cases hq
  | some ie =>
  rw [hi] at hq
  simp only [Option.map_some, Option.some.injEq, Prod.mk.injEq] at hq
  have HI := hide hi
  have HZ0 := hide hq.1
  have HZ1 := hide hq.2.1
  have HZ2 := hide hq.2.2
  clear hi hq
  go_enter Try.func9, Try.ntmps9
  go_wp2_with fail
  refine (ranges_any w).mono ?_
  rintro e w1 ⟨b, rfl, hb1, hbb, hlt, hR⟩
  have HR := hide hR
  clear hR
  go_wp2_with fail
  go_loopw [1, 3] (fun s1 s3 wr => ∃ i : Nat, s3 = .int .i64 i ∧ i ≤ 147 ∧ Hid (Below w1.heap.size w1 wr) ∧ Hid (wr.ownsRow w1.heap.size 28 3 s1 i (Ucd.flat rowCells (Ucd.rows.take i)))) (fun _ s3 _ => (147 - intOf s3).toNat)
  case atStart => exact ⟨0, rfl, by omega, hide (Below.refl _ _), hide (World.ownsRow_nil w1 w1.heap.size 28 3)⟩
  case round =>
    obtain ⟨i, rfl, hi, hbel, hown⟩ := hrel
    by_cases hi2 : i < 147
    · have hc : ∀ w', KM w1.heap.size w1 w' → w'.cell? ⟨b, i * 3, none⟩ = some (.int .i64 (Ucd.lo Ucd.rows i)) := fun w' hk => ((HR.out.mono hk hlt).at hi2).1
      have hc1 : ∀ w', KM w1.heap.size w1 w' → w'.cell? ⟨b, i * 3 + 1, none⟩ = some (.int .i64 (Ucd.hi Ucd.rows i)) := fun w' hk => ((HR.out.mono hk hlt).at hi2).2.1
      have hc2 : ∀ w', KM w1.heap.size w1 w' → w'.cell? ⟨b, i * 3 + 2, none⟩ = some (.int .i64 (Ucd.cl Ucd.rows i)) := fun w' hk => ((HR.out.mono hk hlt).at hi2).2.2
      have hok := Ucd.rows_ok hi2
      have hw1 := wrap_rune (x := Ucd.lo Ucd.rows i) (by omega)
      have hw2 := wrap_rune (x := Ucd.hi Ucd.rows i) (by omega)
      have hbd := build_range
      have hbo := build_one
      have HF := hide (show Ucd.flat rowCells (Ucd.rows.take (i + 1)) = Ucd.flat rowCells (Ucd.rows.take i) ++ [.int .i32 (Ucd.lo Ucd.rows i), .int .i32 (Ucd.hi Ucd.rows i), .int .i64 (Ucd.cl Ucd.rows i)] from flat_snoc rowCells Ucd.rows i (by rw [Ucd.rows_len]; exact hi2))
      have hK : KM w1.heap.size w1 wr := hbel.out
      have hsz := hbel.out.size
      have hiI : (i : Int) < 147 := by omega
      clear hok
      generalize Ucd.lo Ucd.rows i = L at *
      generalize Ucd.hi Ucd.rows i = H at *
      generalize Ucd.cl Ucd.rows i = C at *
      go_wp2
      refine wp_region_noPanic ?_
      go_region_held_law (fun w' => KM w1.heap.size w1 w') (first | exact KM.drew hK | assumption | exact Below.alloc (KM.drew hK) hsz _)
        (first | (refine step_append3 wr.drew rfl (.tmp 11) (.tmp 30) 25 rfl w1.heap.size 28 ie _ Try.underlying25 HI.out HZ0.out HZ1.out HZ2.out rfl _ i _ rfl (.int .i32 L) (.int .i32 H) (.int .i64 C) (World.ownsRow.drew hown.out) rfl (by simp [Value.oneCell']) (by omega) hsz ?_; intro v' w' ho' hb'; have hk' : KM w1.heap.size w1 w' := Below.trans (KM.drew hK) hb'))
      all_goals
        refine NoPanic.normal ?_
        have HO := hide ho'
        have HK := hide hk'
        clear ho' hb' hk' hK hown hbel
        go_wp2
        go_roundw
        case rel => exact ⟨i + 1, by first | rfl | (congr 1), by omega, HK, hide (by rw [HF.out]; exact HO.out)⟩
        case measure => simp [intOf]; omega
    · obtain rfl : i = 147 := by omega
      rcases hown.out.2 with ⟨_, h0⟩ | ⟨g, cap, cur, rfl, hg1, hg2, hg3, hg4, hg5, hg6⟩
      · omega
      have HB := hide (hb1.trans (hbel.out.mono hb1.size))
      go_wp2
      go_ret
      refine ⟨g, cap, cur, rfl, HB.out, Nat.le_trans hb1.size hg1, (Array.getElem?_eq_some_iff.1 hg2).1, hg2, fun j hj => ?_⟩
      rw [List.take_of_length_le (l := Ucd.rows) (by rw [Ucd.rows_len]; omega)] at hg6
      have e : (List.take (147 * 3) cur.toList)[j]? = cur.toList[j]? := List.getElem?_take_of_lt (by omega)
      rw [hg6] at e
      have e2 : cur[j]? = cur.toList[j]? := by simp
      have e3 : tableCells[j]? = (Ucd.flat rowCells Ucd.rows)[j]? := by simp [tableCells]
      exact e2.trans (e.symm.trans e3.symm)
end Go.Proofs.Ytpndmjenpmefmaa
