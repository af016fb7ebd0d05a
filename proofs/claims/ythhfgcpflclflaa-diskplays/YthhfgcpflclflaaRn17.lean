/- The document's disk: New. -/
import Derived.Test.YthhfgcpflclflaaRw17
import Derived.Test.YthhfgcpflclflaaByt
import Derived.Great.BuildSlice
import Derived.Deep.QuietTactic
import Derived.BigQuiet
import Derived.Deep.RegionLaw
namespace Go.Proofs.Ythhfgcpflclflaa
open Go.RowKit
set_option linter.unusedVariables false
set_option maxHeartbeats 1000000
set_option maxRecDepth 100000
theorem byteInfo17 : (Try.prog.info? 5).map (fun i => (i.zero, i.size, i.bytes)) = some (some (.int .u8 0), 1, 1) := by kernel_rfl
theorem strInfo17 : (Try.prog.info? 9).map (fun i => (i.zero, i.size, i.bytes)) = some (some (.string ⟨#[]⟩), 1, 16) := by kernel_rfl
theorem build_disk17 (w : World) : (Instr.build 64 #[(3, .int .i64 (-1))]).run Try.prog w = .ok (.agg #[.slice none 0 0, .slice none 0 0, .int .i64 0, .int .i64 (-1)]) w := run_build w 64 _ _ (by kernel_rfl)
theorem build_str17 (s : ByteArray) (w : World) : (Instr.buildSlice 61 1 #[(0, .string s)]).run Try.prog w = .ok (.slice (some ⟨w.heap.size, 0, none⟩) 1 1) (w.alloc (.cells #[.string s] 9)) := by
  have hq := strInfo17
  cases hi : Try.prog.info? 9 with
  | none => rw [hi] at hq; cases hq
  | some ie =>
    rw [hi] at hq
    simp only [Option.map_some, Option.some.injEq, Prod.mk.injEq] at hq
    refine run_buildSlice w 61 9 1 _ _ ie _ Try.underlying61 hi hq.1 (by rw [hq.2.1]; decide) (by rw [hq.2.1]; decide) ?_
    rw [hq.2.1]
    kernel_rfl
theorem made_bytes17 : ∃ cur : Array Value, cur.toList = (List.replicate 64 (0 : Int)).map (Value.int .u8) ∧ ∀ W : World, (Instr.makeSlice 33 (.int .i64 64) (.int .i64 64)).run Try.prog W = .ok (.slice (some ⟨W.heap.size, 0, none⟩) 64 64) (W.alloc (.cells cur 5)) := by
  obtain ⟨ii, hii, hy0, hy1, hy2⟩ := info_parts byteInfo17
  refine ⟨madeCells #[.int .u8 0] 64, by simp [toList_madeCells_one], fun W => ?_⟩
  have h := run_make (P := Try.prog) W 33 5 ii _ Try.underlying33 hii hy0 .i64 .i64 64 64 (by omega) (Int.le_refl _) (by rw [hy2]; omega) (by omega)
  rw [h, hy1]
  simp [Value.cells]
theorem rnew_bad (w : World) (n : Int) (h : ¬ (1 ≤ n ∧ n ≤ 4096)) :
    Calls Try.prog 10 #[.int .i64 n] w fun e w' => e = .returned (.tuple #[.pointer none, .int .i64 2]) ∧ w = w' := by
  by_cases h1 : n < 1
  · clear h
    go_enter Try.func10, Try.ntmps10
    go_wp2
    go_ret2
    exact ⟨rfl, rfl⟩
  · have h2 : 4096 < n := by omega
    clear h
    go_enter Try.func10, Try.ntmps10
    go_wp2
    go_ret2
    exact ⟨rfl, rfl⟩
/-- A disk that is being made. -/
structure RN17 (w : World) (lv : Value) (k : Nat) (wr : World) : Prop where
  disk : wr.heap[w.heap.size]? = some (.cells #[lv, .slice none 0 0, .int .i64 0, .int .i64 (-1)] 64 (0, 0))
  own : wr.ownsRow (w.heap.size + 1) 9 1 lv k ((List.replicate k (List.replicate 64 (0 : Int))).map sv)
  bel : Below w.heap.size w wr
  size : w.heap.size + 1 ≤ wr.heap.size
section
variable {w wr : World} {lv : Value} {k : Nat}
theorem RN17.next (h : RN17 w lv k wr) {w' : World} (hb : Below (w.heap.size + 1) wr w') {lv' : Value} (ho : w'.ownsRow (w.heap.size + 1) 9 1 lv' (k + 1) ((List.replicate (k + 1) (List.replicate 64 (0 : Int))).map sv)) :
    RN17 w lv' (k + 1) (w'.setCell ⟨w.heap.size, 0, none⟩ lv') := by
  have hd : w'.heap[w.heap.size]? = some (.cells #[lv, .slice none 0 0, .int .i64 0, .int .i64 (-1)] 64 (0, 0)) := (hb.block _ (by omega)).trans h.disk
  have hm := Mod.one w' w.heap.size 0 lv'
  refine ⟨by have := blk_put hd 0 lv'; simpa using this, hm.owns ho fun q hq e => ?_, ?_, ?_⟩
  · have := (ho.lt q hq).1; omega
  · exact (h.bel.trans (hb.mono (by omega))).setCell (p := ⟨w.heap.size, 0, none⟩) (Nat.le_refl _) lv'
  · have h1 := hb.size
    have h2 := h.size
    have h3 := hm.size
    show _ ≤ (w'.setCell ⟨w.heap.size, 0, none⟩ lv').heap.size
    omega
end
theorem rnew_ok (w : World) (n : Nat) (h0 : 1 ≤ n) (h1 : n ≤ 4096) :
    Calls Try.prog 10 #[.int .i64 (n : Int)] w fun e w' => ∃ g gl cl, e = .returned (.tuple #[.pointer (some ⟨g, 0, none⟩), .int .i64 0]) ∧ RD17 w' g gl cl (.slice none 0 0) (Dk.NW n) ∧ KO w w' ∧ w.heap.size ≤ g ∧ w.heap.size ≤ gl := by
  have i1 : ¬ (n : Int) < 1 := by omega
  have i2 : ¬ (4096 : Int) < (n : Int) := by omega
  have hbd := build_disk17
  have hbs := build_str17
  obtain ⟨cur, hcur, hmk⟩ := made_bytes17
  have HRN : Hid (RN17 w (.slice none 0 0) 0 (w.alloc (.cells #[.slice none 0 0, .slice none 0 0, .int .i64 0, .int .i64 (-1)] 64))) :=
    hide ⟨World.alloc_heap_new w _, World.ownsRow_nil _ _ _ _, KO.alloc (KO.refl w) _, by simp⟩
  obtain ⟨ie, hie, hz0, hz1, hz2⟩ := info_parts strInfo17
  have HII : Hid (Try.prog.info? 9 = some ie) := hie
  have HZ0 := hide hz0
  have HZ1 := hide hz1
  have HZ2 := hide hz2
  have hzb : Bytes (List.replicate 64 (0 : Int)) := fun x hx => by rw [(List.mem_replicate.1 hx).2]; omega
  obtain ⟨z, hz⟩ : ∃ z, List.replicate 64 (0 : Int) = z := ⟨_, rfl⟩
  have hzl : z.length = 64 := by rw [← hz, List.length_replicate]
  rw [hz] at hcur hzb
  have HCV := hide (fun (W : World) => run_back (P := Try.prog) (w := (W.alloc (.cells cur 5)).drew) (g := W.heap.size) (cap := 64) (zs := z) (fun j hj => by
    show (W.alloc (.cells cur 5)).cell? _ = _
    rw [World.cell?_alloc_mark, ← Array.getElem?_toList, hcur, List.getElem?_map, List.getElem?_eq_getElem hj]
    simp [List.getD, List.getElem?_eq_getElem hj]) hzb Try.underlying33 Try.underlying5 Try.underlying9)
  have HZ := hide hz
  clear hie hz0 hz1 hz2 hcur hz
  go_enter Try.func10, Try.ntmps10
  go_wp2
  go_loopw [5] (fun s5 W => ∃ (k : Nat) (lv : Value), s5 = .int .i64 (k : Int) ∧ k ≤ n ∧ Hid (RN17 w lv k W)) (fun s5 _ => n - (intOf s5).toNat)
  case atStart => exact ⟨0, _, rfl, Nat.zero_le _, HRN⟩
  case round =>
    obtain ⟨k, lv, rfl, hk, hr⟩ := hrel
    by_cases hlt : k < n
    · have hin : (k : Int) < (n : Int) := by omega
      obtain ⟨ao, cp, hlv, _⟩ := owns_form hr.out.own
      subst hlv
      have c0 : (wr.drew).cell? ⟨w.heap.size, 0, none⟩ = some (.slice ao k cp) := by show wr.cell? _ = _; simp [World.cell?, hr.out.disk]
      have hs1 : w.heap.size < wr.heap.size := hr.out.size
      have hb0 : Below (w.heap.size + 1) wr wr.drew := (Below.refl (w.heap.size + 1) wr).drew
      have ca : ∀ w', Below (w.heap.size + 1) wr w' → w'.cell? ⟨w.heap.size, 0, none⟩ = some (.slice ao k cp) := fun w' hb => (hb.cell (by show w.heap.size < _; omega)).trans c0
      have fa : ∀ w', Below (w.heap.size + 1) wr w' → w'.frozen? ⟨w.heap.size, 0, none⟩ = false := fun w' hb => by
        rw [World.frozen?_of_block (hb.block _ (by show w.heap.size < _; omega))]; simp [World.frozen?, hr.out.disk]
      have hb1 : ∀ o, Below (w.heap.size + 1) wr ((wr.alloc o).drew) := fun o => ((Below.refl (w.heap.size + 1) wr).alloc hs1 o).drew
      have hb2 : ∀ o o', Below (w.heap.size + 1) wr (((wr.alloc o).alloc o').drew) := fun o o' => (((Below.refl (w.heap.size + 1) wr).alloc hs1 o).alloc (by simp; omega) o').drew
      have np : ∀ o, ((wr.alloc o).drew).cell? ⟨w.heap.size, 0, none⟩ = some (.slice ao k cp) := fun o => ca _ (hb1 o)
      have np2 : ∀ o o', (((wr.alloc o).alloc o').drew).cell? ⟨w.heap.size, 0, none⟩ = some (.slice ao k cp) := fun o o' => ca _ (hb2 o o')
      have hvr : VR sv [] (((wr.alloc (.cells cur 5)).alloc (.cells #[.string (str z)] 9)).drew) (some ⟨wr.heap.size + 1, 0, none⟩) 1 1 [z] := by
        have := (VR.lit (f := sv) (d := []) (wr.alloc (.cells cur 5)) [z] 9 (by show 1 ≤ maxLen; unfold maxLen; omega)).below (KO.drew (KO.refl _))
        rw [show (wr.alloc (.cells cur 5)).heap.size = wr.heap.size + 1 from by simp] at this
        exact this
      have HVR := hide hvr
      clear hvr
      have hcv := HCV.out wr
      rw [hzl] at hcv
      go_wp2_with fail
      go_region_law (first
        | (refine step_append_vrow (f := sv) (d := []) _ (fun _ => rfl) rfl (.tmp 23) (.tmp 26) 61 rfl (w.heap.size + 1) 9 ie _ 16 Try.underlying61 HII.out HZ0.out HZ1.out HZ2.out rfl _ k _ rfl (World.ownsRow.drew ((hr.out.own.alloc _).alloc _)) _ 1 1 [z] rfl HVR.out (by omega) (by omega) (by simp; omega) ?_; intro v' w' ho' hb'; have hbb : Below (w.heap.size + 1) wr w' := (hb2 _ _).trans hb'; have cw' := ca w' hbb; have fw' := fa w' hbb; obtain ⟨a2, c2, e2, hle2⟩ := owns_form ho'; subst e2))
      all_goals (
        have HNX := hide (hr.out.next hbb (by rw [List.replicate_succ', List.map_append, HZ.out]; rw [HZ.out] at ho'; exact ho'))
        clear ho' hb' hbb cw' fw' np np2 ca fa c0 hcv hb1 hb2
        go_wp2
        go_roundw
        case rel => exact ⟨k + 1, _, by go_num, by omega, HNX⟩
        case measure => simp [intOf]; omega)
    · obtain rfl : n = k := by omega
      have hne : ¬ (n : Int) < (n : Int) := by omega
      go_wp2
      go_ret2
      obtain ⟨gl, cl, hlv, hge, _⟩ := owns_pos hr.out.own (by omega)
      refine ⟨_, rfl, gl, ⟨cl, ?_, ?_, ?_⟩, hr.out.bel, Nat.le_refl _, by omega⟩
      · have := hr.out.disk
        rw [this, hlv]
        simp [Dk.NW]
      · have := owns_mono hr.out.own (Nat.zero_le _)
        rw [hlv] at this
        simpa [Dk.NW] using this
      · exact World.ownsRow_nil _ _ _ _
end Go.Proofs.Ythhfgcpflclflaa
