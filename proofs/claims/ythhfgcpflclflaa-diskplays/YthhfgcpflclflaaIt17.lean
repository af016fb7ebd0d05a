/- What waits, told by a function over a range. -/
import Derived.Test.YthhfgcpflclflaaPn17
import Derived.Test.YthhfgcpflclflaaRnd
import Derived.Deep.WholeRow
import Derived.Shelf.Abstract
import Derived.Shelf.RegionOpen
import Derived.WalkKit
import Derived.OwnWalkIn
import Derived.TacticsInMore
import Derived.LoopNIn
import Derived.LoopIn
namespace Go.Proofs.Ythhfgcpflclflaa
open Go.RowKit Go.Shelf
set_option linter.unusedVariables false
set_option maxHeartbeats 1000000
set_option maxRecDepth 100000
attribute [local go_sem] Oper.semAt_some
section
variable {F : Fence} {n : Nat} {P : Program} {ops : Array Oper} {rest : List Oper} {op : Oper} {a : Act} {w : World} {Q : Exit → Act → World → Prop}
/-- A value of several cells goes into the newest block. -/
theorem wpListIn_store_new (hgd : op.guard = none) (hds : op.dst = none) (ty : TypeId) (x y : Operand) (ho : op.op = .store ty x y)
    (hx : a.eval x = .pointer (some ⟨w.heap.size, 0, none⟩)) (c c' : Array Value) (hy : a.eval y = .agg c')
    (hi : (P.info? ty).map (·.size) = some c'.size) (hs : c.size = c'.size) (h1 : c'.all (·.oneCell') = true)
    (h : wpListIn F n P ops Q rest a (w.alloc (.cells c' ty))) : wpListIn F n P ops Q (op :: rest) a (w.alloc (.cells c ty)) := by
  refine wpListIn_plain hgd fun K hK => ?_
  unfold Oper.wpIn
  refine ⟨by simp [Oper.about, ho], ?_⟩
  rw [Oper.semAt_plain F _ _ (by rw [ho]; intro c hc'; cases hc')]
  unfold execOp
  simp only [ho, hx, hy, Instr.storeAt, Instr.sureAddr, Sem.run_bind, Sem.run_pure, Result.andThen_ok, run_storeVar_new w ty c c' hi hs h1]
  exact hK _ _ (by rw [hds]; exact h)
theorem wpList_store_new17 (hgd : op.guard = none) (hds : op.dst = none) (ty : TypeId) (x y : Operand) (ho : op.op = .store ty x y)
    (hx : a.eval x = .pointer (some ⟨w.heap.size, 0, none⟩)) (c c' : Array Value) (hy : a.eval y = .agg c')
    (hi : (P.info? ty).map (·.size) = some c'.size) (hs : c.size = c'.size) (h1 : c'.all (·.oneCell') = true)
    (h : wpList P ops Q rest a (w.alloc (.cells c' ty))) : wpList P ops Q (op :: rest) a (w.alloc (.cells c ty)) := by
  refine wpList_plain hgd fun K hK => ?_
  unfold Oper.wp
  unfold execOp
  simp only [ho, hx, hy, Instr.storeAt, Instr.sureAddr, Sem.run_bind, Sem.run_pure, Result.andThen_ok, run_storeVar_new w ty c c' hi hs h1]
  exact hK _ _ (by rw [hds]; exact h)
end
/-- The cells of a sector and of a write, of as many as they have whatever is asked. -/
def u6 (s : List Int) : List Value := if (uv s).length = 64 then uv s else List.replicate 64 (.int .u8 0)
def x6 (x : Nat × List Int) : List Value := if (xe x).length = 65 then xe x else List.replicate 65 (.int .u8 0)
theorem u6_len (s : List Int) : (u6 s).length = 64 := by unfold u6; split; · assumption
                                                         simp
theorem x6_len (x : Nat × List Int) : (x6 x).length = 65 := by unfold x6; split; · assumption
                                                               simp
theorem u6_eq {s : List Int} (h : (uv s).length = 64) : u6 s = uv s := by unfold u6; rw [if_pos h]
theorem x6_eq {x : Nat × List Int} (h : (xe x).length = 65) : x6 x = xe x := by unfold x6; rw [if_pos h]
theorem u6_one (s : List Int) : ∀ v ∈ u6 s, v.oneCell' = true := fun v hv => by
  unfold u6 at hv
  split at hv
  · exact uv_one s v hv
  · rw [(List.mem_replicate.1 hv).2]; rfl
theorem x6_one (x : Nat × List Int) : ∀ v ∈ x6 x, v.oneCell' = true := fun v hv => by
  unfold x6 at hv
  split at hv
  · exact xe_one x v hv
  · rw [(List.mem_replicate.1 hv).2]; rfl
/-- What a write is handed on as. -/
def encw (x : Nat × List Int) : Array Value := #[.int .i64 (x.1 : Int), .agg (u6 x.2).toArray]
/-- What the iterator reads. -/
structure WO (B g : Nat) (aw : Option Addr) (cw : Nat) (ws : List (Nat × List Int)) (X : World) : Prop where
  box : X.cell? ⟨B, 0, none⟩ = some (.pointer (some ⟨g, 0, none⟩))
  cell : X.cell? ⟨g, 1, none⟩ = some (.slice aw ws.length cw)
  row : ∀ k, k < ws.length → ∃ gw, aw = some ⟨gw, 0, none⟩ ∧ X.rangeAt gw (k * 65) (xe (ws.getD k (0, [])))
theorem pwrite_size : (Try.prog.info? 82).map (·.size) = some 65 := by kernel_rfl
theorem sector_size : (Try.prog.info? 75).map (·.size) = some 64 := by kernel_rfl
theorem x6_info (x : Nat × List Int) : (Try.prog.info? 82).map (·.size) = some (x6 x).toArray.size := by rw [List.size_toArray, x6_len]; exact pwrite_size
theorem u6_info (s : List Int) : (Try.prog.info? 75).map (·.size) = some (u6 s).toArray.size := by rw [List.size_toArray, u6_len]; exact sector_size
theorem x6_zero {Z : Array Value} (h : Z.size = 65) (x : Nat × List Int) : Z.size = (x6 x).toArray.size := by rw [h, List.size_toArray, x6_len]
theorem u6_zero {Z : Array Value} (h : Z.size = 64) (s : List Int) : Z.size = (u6 s).toArray.size := by rw [h, List.size_toArray, u6_len]
theorem zero_write : ∃ Z : Array Value, Z.size = 65 ∧ ∀ w, (zeroValue 82).run Try.prog w = .ok (.agg Z) w := by
  obtain ⟨ie, hie, hz0, hz1, hz2⟩ := info_parts pwriteInfo17
  refine ⟨_, ?_, fun w => by simp [zeroValue, typeInfo, hie, hz0]; rfl⟩
  simp
theorem zero_sector : ∃ Z : Array Value, Z.size = 64 ∧ ∀ w, (zeroValue 75).run Try.prog w = .ok (.agg Z) w := by
  obtain ⟨ie, hie, hz0, hz1, hz2⟩ := info_parts sectorInfo17
  refine ⟨_, ?_, fun w => by simp [zeroValue, typeInfo, hie, hz0]; rfl⟩
  simp
theorem waiting1_any (c : Bool) (Rel : Nat → World → World → Prop) (hRel : ∀ B X Y, Rel B X Y → X.heap.size ≤ Y.heap.size) (B g : Nat) (aw : Option Addr) (cw : Nat) (ws : List (Nat × List Int)) (hws : ∀ x ∈ ws, (xe x).length = 65) (hle : ws.length ≤ cw) (hcw : cw ≤ 2 ^ 63 - 1) :
    SeqG c Rel Try.prog 44 #[.pointer (some ⟨B, 0, none⟩)] encw ws (WO B g aw cw ws) := by
  intro m y J Jx W hOk hJ hJx hY h0
  have hm0 := hOk _ _ h0
  have cB := hm0.box
  have cG := hm0.cell
  obtain ⟨Z, hZ, hz⟩ := zero_write
  have HZ := hide hZ
  have HOK := hide hOk
  have HJ := hide hJ
  have HJX := hide hJx
  have HY := hide hY
  have H0 := hide h0
  have HWS := hide hws
  obtain ⟨n, hn⟩ : ∃ n, ws.length = n := ⟨_, rfl⟩
  have HN := hide hn
  rw [hn] at cG hle
  clear hOk hJ hJx hY h0 hm0 hn hws hZ
  refine callsIn_of_wp Try.func44 rfl trivial ?_
  simp only [Try.ntmps44, List.size_toArray, List.length_cons, List.length_nil, Nat.reduceAdd, Nat.reduceSub, Array.replicate_succ, Array.replicate_zero, List.push_toArray, List.append_toArray, List.nil_append, List.cons_append]
  gi_wp2
  gi_loopw [10] (fun p wr => ∃ k : Nat, k ≤ n ∧ p = .int .i64 (k : Int) ∧ W.heap.size ≤ wr.heap.size ∧ Hid (J (ws.take k) wr)) (fun p _ => n - (intOf p).toNat)
  case atStart => exact ⟨0, Nat.zero_le _, rfl, Nat.le_refl _, hide H0.out⟩
  case round =>
    obtain ⟨k, hk, rfl, hsz, hJk⟩ := hrel
    clear cB cG
    by_cases hlt : k < n
    · have hkl : k < ws.length := by rw [HN.out]; exact hlt
      have hin : (k : Int) < (n : Int) := by omega
      obtain ⟨gw, rfl, hr⟩ := (HOK.out _ _ hJk.out).row k hkl
      have hlen := HWS.out _ (Dk.wait_at hkl)
      have hgt : ws[k]? = some (ws.getD k (0, [])) := by simp [List.getD, List.getElem?_eq_getElem hkl]
      have HTK := hide (take_snoc' ws k _ hgt)
      obtain ⟨x, hx⟩ : ∃ x, ws.getD k (0, []) = x := ⟨_, rfl⟩
      rw [hx] at hr hlen HTK
      have hJ2 := hide (HJ.out _ _ (wr.alloc (.cells (xe x).toArray 82)) hJk.out (Ch.alloc hsz _))
      have hpre : ws.take k ++ [x] <+: ws := by rw [← HTK.out]; exact List.take_prefix _ _
      obtain ⟨fn, tmps, assign, body, hy, hR⟩ := HY.out (m - 1) _ x _ hJ2.out hpre (by simp; omega)
      have hb : (wr.alloc (.cells (xe x).toArray 82)).heap[wr.heap.size]? = some (.cells (xe x).toArray 82 (0, 0)) := World.alloc_heap_new wr _
      have c0 : (wr.alloc (.cells (xe x).toArray 82)).cell? ⟨wr.heap.size, 0, none⟩ = some (.int .i64 (x.1 : Int)) := blk_range hb 0 (xe x) (fun j v hj => by rw [Nat.zero_add]; exact hj) 0 _ rfl
      have h1 := hide (blk_range hb 1 (uv x.2) (fun j v hj => by rw [Nat.add_comm]; exact hj))
      have HXL : Hid ((Try.prog.info? 82).map (·.size) = some (xe x).length) := hide (by rw [hlen]; exact pwrite_size)
      have HXA : Hid ((Try.prog.info? 82).map (·.size) = some (xe x).toArray.size) := hide (by rw [List.size_toArray, hlen]; exact pwrite_size)
      have HXZ : Hid (Z.size = (xe x).toArray.size) := hide (by rw [HZ.out, List.size_toArray, hlen])
      have HUL : Hid ((Try.prog.info? 75).map (·.size) = some (uv x.2).length) := hide (by rw [uv_len]; rw [xe_len] at hlen; rw [show x.2.length = 64 from by omega]; exact sector_size)
      have HXO := hide (all_oneCell_toArray (xe_one x))
      have HR := hide hr
      have HRR := hide hR
      unfold encw at hy
      rw [u6_eq (by rw [xe_len] at hlen; rw [uv_len]; omega)] at hy
      clear hx hgt hlen hr hb hR hkl
      generalize hD : wr.alloc (.cells (xe x).toArray 82) = wn at *
      have HD := hide hD
      clear hD
      gi_wp2_with (first
        | (refine wpListIn_load_mid rfl 82 _ rfl gw (k * 65) rfl (xe x) _ HR.out Try.underlying82 rfl HXL.out ?_)
        | (refine wpListIn_store_new rfl rfl 82 _ _ rfl rfl Z (xe x).toArray rfl HXA.out HXZ.out HXO.out ?_; rw [HD.out])
        | (refine wpListIn_load_mid rfl 75 _ rfl wr.heap.size 1 rfl (uv x.2) _ h1.out Try.underlying75 rfl HUL.out ?_))
      refine ⟨fun h => (by cases h), ?_⟩
      refine HRR.out.mono ?_
      rintro e W3 ⟨hbey, (⟨rfl, hJ3⟩ | ⟨rfl, hJx3⟩)⟩
      · have HJ3 := hide hJ3
        clear hJ3
        gi_wp2
        go_roundw
        case rel => exact ⟨k + 1, by omega, by go_num, Nat.le_trans (by rw [← HD.out]; simp; omega) (hRel _ _ _ hbey), by rw [HTK.out]; exact HJ3⟩
        case measure => simp [intOf]; omega
      · gi_wp2
        refine bodyPost_ret (results_none rfl _ _ _) rfl ?_
        exact ⟨⟨_, rfl⟩, Nat.le_trans (by rw [← HD.out]; simp; omega) (hRel _ _ _ hbey), .inr ⟨_, hpre, hJx3⟩⟩
    · obtain rfl : k = n := by omega
      have hlt' : ¬ (k : Int) < (k : Int) := by omega
      gi_wp2
      go_end0
      exact ⟨⟨_, rfl⟩, hsz, .inl (by have := hJk.out; rw [List.take_of_length_le (by rw [HN.out]; exact Nat.le_refl _)] at this; exact this)⟩
theorem waiting_any (g : Nat) (w : World) :
    Calls Try.prog 38 #[.pointer (some ⟨g, 0, none⟩)] w fun e w' => e = .returned (.func (.func 44) #[] #[.pointer (some ⟨w.heap.size, 0, none⟩)]) ∧ w' = w.alloc (.cells #[.pointer (some ⟨g, 0, none⟩)] 23) := by
  go_enter Try.func38, Try.ntmps38
  go_wp2
  go_ret
  exact ⟨rfl, rfl⟩
end Go.Proofs.Ythhfgcpflclflaa
