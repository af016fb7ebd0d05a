/- The walk of UcdRanges. -/
import Derived.Test.YtpndmjenpmefmaaRows
import Derived.Test.YtpndmjenpmefmaaUc
import Derived.Test.YtpndmjenpmefmaaArgs
import Derived.Test.YtpndmjenpmefmaaRefg
import Derived.Test.YtpndmjenpmefmaaRngs
import Derived.DeepKeys
import Derived.WalkKit
import Derived.WalkSpells
import Derived.WalkLawsBesides
import Derived.Outline
namespace Go.Proofs.Ytpndmjenpmefmaa
open Go.RowKit
set_option linter.unusedVariables false
set_option maxHeartbeats 1000000
set_option maxRecDepth 100000
theorem range_cells : Try.prog.cellsOf 28 = 3 ∧ Try.prog.cellsOf 21 = 1 ∧ Try.prog.cellsOf 3 = 1 := ⟨by kernel_rfl, by kernel_rfl, by kernel_rfl⟩
theorem range_same (x y z : Int) (hx : (Lit.int .i32 x).wf = true) (hy : (Lit.int .i32 y).wf = true) (hz : (Lit.int .i64 z).wf = true) (w : World) :
    (Op.equalIn 10000 28 (.agg #[.int .i32 x, .int .i32 y, .int .i64 z]) (.agg #[.int .i32 x, .int .i32 y, .int .i64 z])).run Try.prog w = .ok true w := by
  have hk : Try.prog.keyLits 3 28 [.int .i32 x, .int .i32 y, .int .i64 z] = some [.int .i32 x, .int .i32 y, .int .i64 z] := by
    unfold Program.keyLits
    rw [Try.underlying28]
    simp [range_cells.1, range_cells.2.1, range_cells.2.2, Program.keyLits, Try.underlying21, Try.underlying3, hx, hy, hz]
  have hfm : (Value.agg #[.int .i32 x, .int .i32 y, .int .i64 z]).formed Try.prog 28 = true := by
    unfold Value.formed
    rw [Try.underlying28]
    simp [range_cells.1]
  obtain ⟨r, hr, hiff⟩ := run_equalIn_deep (P := Try.prog) 9997 3 28 (by kernel_rfl) w 3 3 _ _ _ _ hfm hfm hk hk
  rw [hiff.2 rfl] at hr
  exact hr
/-- The rows lie in a block, at its beginning. -/
def ListAt (w : World) (b : Nat) : Prop := ∀ j, j < 441 → w.cell? ⟨b, j, none⟩ = tableCells[j]?
theorem ListAt.at {w : World} {b : Nat} (h : ListAt w b) {i : Nat} (hi : i < 147) :
    w.cell? ⟨b, i * 3, none⟩ = some (.int .i32 (Ucd.lo Ucd.rows i)) ∧ w.cell? ⟨b, i * 3 + 1, none⟩ = some (.int .i32 (Ucd.hi Ucd.rows i)) ∧ w.cell? ⟨b, i * 3 + 2, none⟩ = some (.int .i64 (Ucd.cl Ucd.rows i)) := TabAt.at h hi
theorem ListAt.mono {w w' : World} {b B : Nat} (h : ListAt w b) (hb : Below B w w') (hB : b < B) : ListAt w' b := TabAt.mono h hb hB
theorem listAt_of {w : World} {b : Nat} {cur : Array Value} {t : TypeId} (hg : w.heap[b]? = some (.cells cur t (0, 0))) (h : ∀ j, j < 441 → cur[j]? = tableCells[j]?) : ListAt w b := fun j hj => by
  rw [← h j hj]
  unfold World.cell?
  rw [hg]
  rfl
/-- The comparison of two lists of all the rows, by the inner loop. -/
theorem UcdRanges_walk (w : World) (at0 : Int) (hat : (Lit.int .i64 at0).wf = true) : Calls Try.prog 4 #[.int .i64 at0] w fun e w' => e = .returned (.bool true) ∧ Below w.heap.size w w' := by
  have hbd := bounds_i64 hat
  have HP := hide (place_at at0 147 (by omega) (by omega))
  clear hat
  go_enter Try.func4, Try.ntmps4
  go_wp2_with fail
  refine (ranges3_any w).mono ?_
  rintro e w1 ⟨bl, rfl, hb1, hbl, hg1⟩
  go_wp2_with fail
  refine (rranges_any w1).mono ?_
  rintro e w2 ⟨bm, cap, cur, rfl, hb2, hbm, hltm, hg2, hcur⟩
  have hltl : bl < w1.heap.size := (Array.getElem?_eq_some_iff.1 hg1).1
  have HB2 := hide (hb1.trans (hb2.mono hb1.size))
  have HG1 : Hid (w2.heap[bl]? = some (.cells tableCells 28 (0, 0))) := hide ((hb2.block bl hltl).trans hg1)
  have HM := hide (listAt_of hg2 hcur)
  have hnb : ¬ bl = bm := by omega
  have hwm : w.heap.size ≤ bm := Nat.le_trans hb1.size hbm
  obtain ⟨k, hk, hkw0⟩ := HP.out
  have hkw : wrap64 ((IntKind.u64.wrap at0).tmod 147) = (k : Int) := hkw0
  clear hkw0
  have hbr := build_range
  clear hb1 hb2 hg1 hg2 hcur hbm HP
  go_wp2_with fail
  go_loopw [3, 5] (fun s3 s5 wr => ∃ n b : Nat, s3 = .slice (some ⟨b, 0, none⟩) 147 147 ∧ s5 = .int .i64 n ∧ n ≤ 2 ∧ w.heap.size ≤ b ∧ ¬ b = bm ∧ bm < wr.heap.size ∧ Hid (Below w.heap.size w wr) ∧ Hid (wr.heap[b]? = some (.cells tableCells 28 (0, 0))) ∧ Hid (ListAt wr bm)) (fun _ s5 _ => (2 - intOf s5).toNat)
  case atStart => exact ⟨0, bl, rfl, rfl, by omega, hbl, hnb, hltm, HB2, HG1, HM⟩
  case round =>
    clear HB2 HG1 HM hnb hbl hltm hltl
    obtain ⟨n, b, rfl, rfl, hn, hbl, hnb, hltm, HB, HG, HM⟩ := hrel
    by_cases hn2 : n < 2
    · have HL : Hid (ListAt wr b) := hide (listAt_of HG.out (fun _ _ => rfl))
      have hltb : b < wr.heap.size := (Array.getElem?_eq_some_iff.1 HG.out).1
      go_wp2_with fail
      go_loopw [6] (fun s6 wi => ∃ i : Nat, s6 = .int .i64 i ∧ i ≤ 147 ∧ Below wr.heap.size wr wi) (fun s6 _ => (147 - intOf s6).toNat)
      case atStart => exact ⟨0, rfl, by omega, Below.refl _ _⟩
      case round =>
        obtain ⟨i, rfl, hi, hbi⟩ := hrel
        by_cases hi2 : i < 147
        · obtain ⟨c0, c1, c2⟩ := (HL.out.mono hbi hltb).at hi2
          obtain ⟨d0, d1, d2⟩ := (HM.out.mono hbi hltm).at hi2
          have hok := Ucd.rows_ok hi2
          have heq := range_same (Ucd.lo Ucd.rows i) (Ucd.hi Ucd.rows i) (Ucd.cl Ucd.rows i) (WalkArith.wf_i32 (by omega)) (WalkArith.wf_i32 (by omega)) (WalkArith.wf_i64 (by omega))
          have hiI : (i : Int) < 147 := by omega
          clear hok
          generalize Ucd.lo Ucd.rows i = L at *
          generalize Ucd.hi Ucd.rows i = H at *
          generalize Ucd.cl Ucd.rows i = C at *
          go_wp2_with fail
          go_region
          all_goals (try go_wp2)
          all_goals go_roundw
          case rel => exact ⟨i + 1, by first | rfl | (congr 1), by omega, hbi.drew⟩
          case measure => simp [intOf]; omega
        · obtain rfl : i = 147 := by omega
          have hgi : wr.heap[b]? = some (.cells tableCells 28 (0, 0)) := (hbi.block b hltb).trans HG.out
          have HBi := hide (HB.out.trans (hbi.mono HB.out.size))
          have HMi := hide (HM.out.mono hbi hltm)
          have hlti : bm < wr.heap.size := Nat.lt_of_lt_of_le hltm hbi.size
          have hkI : (k : Int) < 147 := by omega
          have hsz := HBi.out.size
          clear hbi HB HM HG HL
          go_wp2_with (first
            | (refine wpList_store_seg rfl 28 _ _ rfl rfl b (k * 3) #[.int .i32 1, .int .i32 0, .int .i64 99] rfl rfl 28 tableCells hgi (three_info rangeInfo _ _ _) (by rw [tableSize]; show k * 3 + 3 ≤ _; omega) (three_one _ _ _) ?_)
            | (go_at_call 8; refine (ranges3_any _).mono ?_; rintro e w5 ⟨b5, rfl, hb5, hbl5, hg5⟩))
          go_roundw
          case rel =>
            have hs5 : w.heap.size ≤ b5 := by rw [setRow_size] at hbl5; omega
            have hn5 : ¬ b5 = bm := by rw [setRow_size] at hbl5; omega
            refine ⟨n + 1, b5, rfl, by first | rfl | (congr 1), by omega, hs5, hn5, ?_, hide ((below_setRow HBi.out hbl _).trans (hb5.mono (by rw [setRow_size]; exact hsz))), hide hg5, hide ?_⟩
            · have := hb5.size; rw [setRow_size] at this; omega
            · intro j hj
              rw [hb5.cell (p := ⟨bm, j, none⟩) (by rw [setRow_size]; exact hlti), cell_setRow_other _ _ _ _ (by show ¬ bm = b; omega)]
              exact HMi.out j hj
          case measure => simp [intOf]; omega
    · obtain rfl : n = 2 := by omega
      go_wp2
      go_ret
      exact ⟨rfl, HB.out⟩
end Go.Proofs.Ytpndmjenpmefmaa
