/- The program's disk: Write. -/
import Derived.Test.YthhfgcpflclflaaFl17
import Derived.Great.BuildSlice
import Derived.Deep.RegionLaw
import Derived.Deep.AppendLies
import Derived.BigRegion
namespace Go.Proofs.Ythhfgcpflclflaa
open Go.RowKit
set_option linter.unusedVariables false
set_option maxHeartbeats 1000000
set_option maxRecDepth 100000
section
variable {P : Program} {ops : Array Oper} {rest : List Oper} {op : Oper} {a : Act} {w : World} {Q : Exit → Act → World → Prop}
theorem wpList_build17 (hgd : op.guard = none) (ty : TypeId) (x : Operand) (ho : op.op = .build ty #[(0, x)]) (u : Value) (hx : a.eval x = u) (C : Array Value) (hb : ∀ w, (Instr.build ty #[(0, u)]).run P w = .ok (.agg C) w)
    (h : wpList P ops Q rest (a.put op.dst (.agg C)) w) : wpList P ops Q (op :: rest) a w := by
  refine wpList_plain hgd fun K hK => ?_
  unfold Oper.wp execOp
  simp only [ho]
  have e : (#[(0, x)] : Array (Nat × Operand)).map (fun (i, x) => (i, a.eval x)) = #[(0, u)] := by simp [hx]
  simp only [e, Sem.run_bind, hb, Result.andThen_ok]
  exact hK _ _ h
theorem wpList_alloc17 (hgd : op.guard = none) (ty : TypeId) (ho : op.op = .alloc ty) (Z : Array Value) (hz : ∀ w, (zeroValue ty).run P w = .ok (.agg Z) w)
    (h : wpList P ops Q rest (a.put op.dst (.pointer (some ⟨w.heap.size, 0, none⟩))) (w.alloc (.cells Z ty))) : wpList P ops Q (op :: rest) a w := by
  refine wpList_plain hgd fun K hK => ?_
  unfold Oper.wp execOp
  simp only [ho]
  simp [go_sem, hz, Result.andThen]
  exact hK _ _ h
end
theorem u8_size : (Try.prog.info? 5).map (·.size) = some 1 := by kernel_rfl
theorem pwrite_zsize : (Value.agg (#[Value.int .i64 0] ++ Array.replicate 64 (Value.int .u8 0))).cells.size = 65 := by simp [Value.cells]
theorem build_write17 (k : Int) : ∃ C : List Value, C.length = 65 ∧ C[0]? = some (.int .i64 k) ∧ (∀ v ∈ C, v.oneCell' = true) ∧ ∀ w, (Instr.build 82 #[(0, .int .i64 k)]).run Try.prog w = .ok (.agg C.toArray) w := by
  refine ⟨(#[Value.int .i64 k] ++ Array.replicate 64 (Value.int .u8 0)).toList, by simp, by simp, fun v hv => ?_, fun w => ?_⟩
  · rw [Array.toList_append, List.mem_append] at hv
    rcases hv with q | q
    · rw [List.mem_singleton.1 q]; rfl
    · rw [Array.toList_replicate] at q
      rw [(List.mem_replicate.1 q).2]; rfl
  · rw [Array.toArray_toList]
    exact run_build (P := Try.prog) w 82 #[(0, .int .i64 k)] _ (by kernel_rfl)
theorem fold_sets : ∀ (l : List Value) (k : Nat) (base : Array Value), ((l.zipIdx k).foldl (fun cs (p : Value × Nat) => cs.setIfInBounds (0 + p.2) p.1) base).toList = sets base.toList k l
  | [], _, _ => rfl
  | v :: l, k, base => by
    rw [List.zipIdx_cons, List.foldl_cons, fold_sets l (k + 1), sets]
    simp
theorem build_slice17 {P : Program} (t e : TypeId) (n bytes : Nat) (z : Value) (hu : P.underlying t = some (.slice e)) (hq : (P.info? e).map (fun i => (i.zero, i.size, i.bytes)) = some (some z, n, bytes)) (hz : z.cells.size = n) (hn : 0 < n) (hn2 : n ≤ 1000) (cs : List Value) (hl : cs.length = n) (w : World) :
    (Instr.buildSlice t 1 #[(0, .agg cs.toArray)]).run P w = .ok (.slice (some ⟨w.heap.size, 0, none⟩) 1 1) (w.alloc (.cells cs.toArray e)) := by
  cases hi : P.info? e with
  | none => rw [hi] at hq; cases hq
  | some ie =>
    rw [hi] at hq
    simp only [Option.map_some, Option.some.injEq, Prod.mk.injEq] at hq
    refine run_buildSlice w t e 1 _ _ ie z hu hi hq.1 (by rw [hq.2.1]; omega) (by rw [hq.2.1]; omega) ?_
    rw [hq.2.1]
    have hsz : cs.toArray.size = n := by rw [List.size_toArray]; exact hl
    simp only [Instr.fill, Value.cells, hsz, Array.size_map, Array.size_range]
    rw [if_neg (by simp)]
    congr 1
    apply Array.toList_inj.1
    rw [← Array.foldl_toList, Array.toList_zipIdx, Nat.zero_mul]
    refine (fold_sets _ _ _).trans ?_
    rw [sets_all (by simp; omega)]
theorem PD17.waits2 {w w2 : World} {g gl cl : Nat} {vw v2 : Value} {d : Dk.Ds} {ws : List (Nat × List Int)} (h : PD17 w g gl cl vw d) (hm : Mod (fun k => vw.ownBlock = some k) w w2) (ho : w2.ownsRow 0 82 65 v2 ws.length (xv ws)) (hs : ∀ x ∈ ws, x.1 < d.lies.length ∧ Dk.Sec x.2) : PD17 (w2.setCell ⟨g, 1, none⟩ v2) g gl cl v2 { d with waits := ws } := by
  have hb := (hm.block g (Array.getElem?_eq_some_iff.1 h.disk).1 h.ne2).trans h.disk
  have hl := hm.owns h.lies fun k hk => by cases hk; exact h.ne3
  refine ⟨by have := blk_put hb 1 v2; simpa using this, (Mod.one w2 g 1 _).owns hl fun k hk => by cases hk; exact h.ne1, (Mod.one w2 g 1 _).owns ho fun k hk q => ?_, ⟨h.wf.lies, hs, h.wf.left, h.wf.some⟩⟩
  obtain ⟨cur, hc⟩ := owns_tag2 ho hk
  rw [q, hb] at hc
  simp at hc
theorem pwrite_any (w : World) (g gl cl : Nat) (vw : Value) (d : Dk.Ds) (n : Int) (ao : Option Addr) (m c : Nat) (b : List Int) (h : PD17 w g gl cl vw d) (hr : Row .u8 w ao m c b) (hb : ∀ x ∈ b, 0 ≤ x ∧ x ≤ 255) (hs : d.steps ≤ 4611686018427387904) (hlf : d.left ≤ 9223372036854775807) (hwb : (d.waits.length + 1) * 72 ≤ 140737488355328) :
    Calls Try.prog 17 #[.pointer (some ⟨g, 0, none⟩), .int .i64 n, .slice ao m c] w fun e w' => e = .returned (.int .i64 (Dk.WR d n b).2) ∧ ∃ vw', PD17 w' g gl cl vw' (Dk.WR d n b).1 ∧ Mod (fun k => k = g ∨ vw.ownBlock = some k) w w' ∧ ∀ k, vw'.ownBlock = some k → vw.ownBlock = some k ∨ w.heap.size ≤ k := by
  have HI := hide (fun r hr => phas_any w g gl cl vw d n h r hr)
  have HD := hide (fun r hr => pdown_any w g gl cl vw d h r hr)
  have hbl := hr.len
  have hme := hr.le
  have hmm := hr.max
  unfold maxLen at hmm
  by_cases hn : Dk.has d n
  · have HI1 := hide (HI.out 0 (by rw [if_pos hn]))
    by_cases hl : m = 64
    · subst hl
      by_cases h0 : d.left = 0
      · have e : Dk.WR d n b = (d, 170) := by unfold Dk.WR; rw [if_neg (by simpa using hn), if_neg (by simpa using hbl), if_pos h0]
        have HD1 := hide (HD.out true (by rw [h0]; rfl))
        rw [e]
        have H := hide h
        clear h HI HD hn h0 e hs hlf hr hb hbl
        go_enter Try.func17, Try.ntmps17
        go_wp2_with fail
        refine HI1.out.mono ?_
        rintro e w1 ⟨rfl, rfl⟩
        go_wp2_with fail
        refine HD1.out.mono ?_
        rintro e w1 ⟨rfl, rfl⟩
        go_wp2
        go_ret
        exact ⟨rfl, _, H.out, Mod.refl _ _, fun k hk => .inl hk⟩
      · have e : Dk.WR d n b = (Dk.tick { d with waits := d.waits ++ [(n.toNat, b)] }, 0) := by unfold Dk.WR; rw [if_neg (by simpa using hn), if_neg (by simpa using hbl), if_neg h0]
        have HD1 := hide (HD.out false (by rw [decide_eq_false h0]))
        obtain ⟨k, rfl⟩ : ∃ k : Nat, n = (k : Int) := ⟨n.toNat, by unfold Dk.has at hn; omega⟩
        have hk : k < d.lies.length := by unfold Dk.has at hn; omega
        rw [e, Int.toNat_natCast]
        have hsec : Dk.Sec b := ⟨hbl, hb⟩
        obtain ⟨Z, hZ, hz⟩ := zero_write
        obtain ⟨C, hC, hC0, hC1, hbd⟩ := build_write17 (k : Int)
        have HZF := hide hz
        have HBD := hide hbd
        clear hbd
        obtain ⟨rb, ro, rfl, hrl, hrc⟩ := hr.cells (by omega)
        have hub : (uv b).length = 64 := by rw [uv_len]; exact hbl
        -- the block of the write
        have hblk : (w.alloc (.cells C.toArray 82)).heap[w.heap.size]? = some (.cells C.toArray 82 (0, 0)) := World.alloc_heap_new w _
        have hcs : sets C 1 (uv b) = xe (k, b) := by
          apply List.ext_getElem?
          intro j
          rw [sets_get, hub, hC]
          rcases j with _ | j
          · rw [if_neg (by omega), hC0]; rfl
          · by_cases hj : j < 64
            · rw [if_pos (by omega)]; rfl
            · rw [if_neg (by omega), List.getElem?_eq_none (by omega), List.getElem?_eq_none (by rw [xe_len]; show b.length + 1 ≤ _; omega)]
        have hblk2 := blk_sets (uv b) 1 hblk
        rw [hcs] at hblk2
        have KA : KO w ((w.alloc (.cells C.toArray 82)).setCells w.heap.size 1 (uv b)) := KO.cells (KO.alloc (KO.refl w) _) _ (Nat.le_refl _)
        have HSRC : Hid (∀ j v, (uv b)[j]? = some v → (w.alloc (.cells C.toArray 82)).cell? ((⟨rb, ro, none⟩ : Addr).add j) = some v) := hide (fun j v hj => by
          have hjl : j < b.length := by
            have := (List.getElem?_eq_some_iff.1 hj).1
            rw [uv_len] at this
            exact this
          have hadd : (⟨rb, ro, none⟩ : Addr).add j = ⟨rb, ro + j, none⟩ := by unfold Addr.add; split <;> simp_all
          rw [hadd, World.cell?_alloc_past _ _ _ (by exact hrl), hrc j hjl]
          unfold uv at hj
          rw [List.getElem?_map, List.getElem?_eq_getElem hjl] at hj
          simp only [Option.map_some, Option.some.injEq] at hj
          rw [← hj]
          simp [List.getD, List.getElem?_eq_getElem hjl])
        have hth := blk_there hblk 1 (uv b).length (by rw [hub, hC]; decide)
        have hcp := run_copy_cells (P := Try.prog) (w.alloc (.cells C.toArray 82)) 33 33 3 5 w.heap.size 1 64 64 ⟨rb, ro, none⟩ 64 c (uv b) Try.underlying33 u8_size (by rw [hub]; rfl) HSRC.out (fun j hj => (hth j hj).1) (fun j hj => (hth j hj).2) (uv_one b)
        have HCI : Hid ((Try.prog.info? 82).map (·.size) = some C.toArray.size) := hide (by rw [List.size_toArray, hC]; exact pwrite_size)
        have HCZ : Hid (Z.size = C.toArray.size) := hide (by rw [hZ, List.size_toArray, hC])
        have HCO : Hid (C.toArray.all (·.oneCell') = true) := hide (all_oneCell_toArray hC1)
        obtain ⟨W, hW⟩ : ∃ W, (w.alloc (.cells C.toArray 82)).setCells w.heap.size 1 (uv b) = W := ⟨_, rfl⟩
        have HWW := hide hW
        rw [hW] at hblk2 KA hcp
        rw [hub] at hcp
        have hPW := h.ko KA
        have HP := hide hPW
        have HH := hide h
        have HB := hide hblk2
        have HKA := hide KA
        have HUB := hide hub
        have HUO := hide (uv_one b)
        have HLF := hide hlf
        have HS := hide hs
        have HH0 := hide h0
        have HWB := hide hwb
        have HKL := hide hk
        have HSEC := hide hsec
        have HW := hide h.wf
        clear h hr hb hbl hn h0 e hs hlf hwb HI HD hk hsec HSRC hth hC hC0 hC1 hZ hz hub hblk hcs hblk2 KA hW hrl hrc hPW
        go_enter Try.func17, Try.ntmps17
        go_wp2_with fail
        refine HI1.out.mono ?_
        rintro e w1 ⟨rfl, rfl⟩
        go_wp2_with fail
        refine HD1.out.mono ?_
        rintro e w1 ⟨rfl, rfl⟩
        go_wp2_with (first
          | (refine wpList_build17 rfl 82 _ rfl (.int .i64 (k : Int)) rfl C.toArray HBD.out ?_)
          | (refine wpList_alloc17 rfl 82 rfl Z HZF.out ?_)
          | (refine wpList_store_new17 rfl rfl 82 _ _ rfl rfl Z C.toArray rfl HCI.out HCZ.out HCO.out ?_))
        have hpl := HP.out.cells.2.1
        obtain ⟨aw, cw, hvw, hle, hcw⟩ := HP.out.form
        have hws := HP.out.waits
        rw [hvw] at hpl hws
        have hxl : (xe (k, b)).length = 65 := by rw [xe_len]; show b.length + 1 = 65; have := HUB.out; rw [uv_len] at this; omega
        have hlast : ∀ o : Obj, (W.alloc o).cell? ⟨g, 1, none⟩ = some (.slice aw d.waits.length cw) := fun o => by
          rw [World.cell?_alloc_past _ _ _ (by exact (Array.getElem?_eq_some_iff.1 HP.out.disk).1)]
          exact hpl
        have HR82 : Hid (W.drew.rangeAt w.heap.size 0 (xe (k, b))) := hide (blk_range (w := W.drew) HB.out 0 (xe (k, b)) (fun j v hj => by rw [Nat.zero_add]; exact hj))
        have HR83 : Hid (∀ o, (W.drew.alloc o).rangeAt w.heap.size 0 (xe (k, b))) := hide (fun o => World.rangeAt_alloc HR82.out o)
        have HXI : Hid ((Try.prog.info? 82).map (·.size) = some (xe (k, b)).length) := hide (by rw [hxl]; exact pwrite_size)
        have hbs := fun W => build_slice17 (P := Try.prog) 40 82 65 72 _ Try.underlying40 pwriteInfo17 (by simp [Value.cells]) (by omega) (by omega) (xe (k, b)) hxl W
        obtain ⟨ie, hie, hz0, hz1, hz2⟩ := info_parts pwriteInfo17
        have HII : Hid (Try.prog.info? 82 = some ie) := hie
        have HZ0 := hide hz0
        have HZ1 := hide hz1
        have HZ2 := hide hz2
        have HX1 := hide hxl
        have HWS := hide hws
        clear hcp hie hz0 hz1 hz2 hxl hws
        have HXV : Hid (xv d.waits ++ xe (k, b) = xv (d.waits ++ [(k, b)])) := hide (by unfold xv; rw [List.flatMap_append]; simp)
        have HSECS : Hid (∀ x ∈ d.waits ++ [(k, b)], x.1 < d.lies.length ∧ Dk.Sec x.2) := hide (fun x hx => by
          rcases List.mem_append.1 hx with q | q
          · exact HW.out.waits x q
          · rw [List.mem_singleton.1 q]; exact ⟨HKL.out, HSEC.out⟩)
        have HCO1 := hide (xe_one (k, b))
        have HWA : Hid ((W.drew.alloc (.cells (xe (k, b)).toArray 82)).ownsRow 0 82 65 (.slice aw d.waits.length cw) d.waits.length (xv d.waits)) := hide (by
          have := (HP.out.ko (KO.alloc (KO.drew (KO.refl W)) (.cells (xe (k, b)).toArray 82))).waits
          rw [hvw] at this
          exact this)
        have HNEW : Hid (∀ j u, (xe (k, b))[j]? = some u → (W.drew.alloc (.cells (xe (k, b)).toArray 82)).cell? ((⟨W.drew.heap.size, 0, none⟩ : Addr).add j) = some u) := hide (fun j u hj => by
          rw [Addr.add_mid]
          exact blk_range (World.alloc_heap_new W.drew (.cells (xe (k, b)).toArray 82)) 0 (xe (k, b)) (fun j v hj => by rw [Nat.zero_add]; exact hj) j u hj)
        have HFIN : Hid (∀ w2, (W.drew.alloc (.cells (xe (k, b)).toArray 82)).grownBy w2 (Value.slice aw d.waits.length cw).ownBlock → Mod (fun k => vw.ownBlock = some k) w w2 ∧ w2.cell? ⟨g, 1, none⟩ = some (.slice aw d.waits.length cw) ∧ w2.frozen? ⟨g, 1, none⟩ = false) := hide (fun w2 hg => by
          rw [← hvw] at hg
          have hm : Mod (fun k => vw.ownBlock = some k) w w2 := (Mod.of_ko (KO.alloc (KO.drew HKA.out) _)).trans (⟨hg.os, hg.tape, hg.output, hg.size, fun k hk hn => hg.block k hk fun q => hn q.symm⟩ : Mod (fun k => vw.ownBlock = some k) _ w2) fun i q => .inl q
          have hgs := (Array.getElem?_eq_some_iff.1 HP.out.disk).1
          have hD : Mod (fun k => vw.ownBlock = some k) W w2 := ((Mod.of_ko (KO.alloc (KO.drew (KO.refl W)) _)).trans (⟨hg.os, hg.tape, hg.output, hg.size, fun k hk hn => hg.block k hk fun q => hn q.symm⟩ : Mod (fun k => vw.ownBlock = some k) _ w2) fun i q => .inl q)
          have hb := (hD.block g hgs HP.out.ne2).trans HP.out.disk
          refine ⟨hm, ?_, by simp [World.frozen?, hb]⟩
          rw [← hvw]
          simp [World.cell?, hb])
        have HPW2 : Hid (∀ w2 v2, Mod (fun k => vw.ownBlock = some k) w w2 → w2.ownsRow 0 82 65 v2 (d.waits ++ [(k, b)]).length (xv (d.waits ++ [(k, b)])) → PD17 (w2.setCell ⟨g, 1, none⟩ v2) g gl cl v2 { d with waits := d.waits ++ [(k, b)] }) := hide (fun w2 v2 hm ho => HH.out.waits2 hm ho HSECS.out)
        have HV3 : Hid (∀ g2 cp2, ((Value.slice aw d.waits.length cw).ownBlock = some g2 ∨ g2 = (W.drew.alloc (.cells (xe (k, b)).toArray 82)).heap.size) → ∀ q, (Value.slice (some ⟨g2, 0, none⟩) (d.waits.length + 1) cp2).ownBlock = some q → vw.ownBlock = some q ∨ w.heap.size ≤ q) := hide (fun g2 cp2 ha q hq => by
          cases hq
          rcases ha with ha | ha
          · rw [hvw]; exact .inl ha
          · refine .inr ?_
            have := HKA.out.size
            rw [ha, World.size_alloc]
            show w.heap.size ≤ W.heap.size + 1
            omega)
        clear hvw
        generalize xe (k, b) = cs at *
        refine wp_region_cm (by kernel_rfl) 11 rfl ?_
        refine wpAny_take (i := 0) (v := .pointer (some ⟨g, 0, none⟩)) rfl (by kernel_rfl) (by kernel_rfl) (by kernel_rfl) (fun _ _ _ h => h) (Or.inl ⟨by rfl, fun w' => by go_simp⟩) ?_
        simp only [Act.put, List.setIfInBounds_toArray, List.set_cons_zero, List.set_cons_succ, List.getElem_toArray, List.getElem_cons_zero]
        refine wpAny_take (i := 1) (v := .pointer (some ⟨g, 0, none⟩)) rfl (by kernel_rfl) (by kernel_rfl) (by kernel_rfl) (fun _ _ _ h => h) (Or.inl ⟨by rfl, fun w' => by go_simp⟩) ?_
        simp only [Act.put, List.setIfInBounds_toArray, List.set_cons_zero, List.set_cons_succ, List.getElem_toArray, List.getElem_cons_succ, List.getElem_cons_zero]
        refine wpAny_take (i := 2) (v := .pointer (some ⟨g, 0, none⟩)) rfl (by kernel_rfl) (by kernel_rfl) (by kernel_rfl) (fun _ _ _ h => h) (Or.inl ⟨by rfl, fun w' => by go_simp⟩) ?_
        simp only [Act.put, List.setIfInBounds_toArray, List.set_cons_zero, List.set_cons_succ, List.getElem_toArray, List.getElem_cons_succ, List.getElem_cons_zero]
        refine wpAny_take (i := 3) (v := .pointer (some ⟨g, 1, none⟩)) rfl (by kernel_rfl) (by kernel_rfl) (by kernel_rfl) (fun _ _ _ h => h) (Or.inl ⟨by rfl, fun w' => by go_simp⟩) ?_
        simp only [Act.put, List.setIfInBounds_toArray, List.set_cons_zero, List.set_cons_succ, List.getElem_toArray, List.getElem_cons_succ, List.getElem_cons_zero]
        refine wpAny_ready (rs := [4, 5]) (by kernel_rfl) (by simp) ?_
        refine AllReady.cons rfl (fun K hK => ?_) (AllReady.cons rfl (fun K hK => ?_) AllReady.nil)
        · go_simp
          refine hK _ _ ?_
          clear hK K
          refine wpAny_ready (rs := [5]) (by kernel_rfl) (by simp) ?_
          refine AllReady.cons rfl (fun K hK => ?_) AllReady.nil
          rw [if_pos (by rfl)]
          refine wp_load_mid 82 _ rfl w.heap.size 0 rfl cs _ HR82.out Try.underlying82 rfl HXI.out ?_
          refine hK _ _ ?_
          clear hK K
          simp only [Act.put, List.setIfInBounds_toArray, List.set_cons_zero, List.set_cons_succ, List.getElem_toArray, List.getElem_cons_succ, List.getElem_cons_zero]
          refine wpAny_ready (rs := [6]) (by kernel_rfl) (by simp) ?_
          refine AllReady.cons rfl (fun K hK => ?_) AllReady.nil
          rw [if_pos (by rfl)]
          refine op_buildSlice 40 _ rfl rfl (hbs _) ?_
          refine hK _ _ ?_
          clear hK K
          simp only [Act.put, List.setIfInBounds_toArray, List.set_cons_zero, List.set_cons_succ, List.getElem_toArray, List.getElem_cons_succ, List.getElem_cons_zero]
          refine wpAny_ready (rs := [7]) (by kernel_rfl) (by simp) ?_
          refine AllReady.cons rfl (fun K hK => ?_) AllReady.nil
          refine step_append_lies _ rfl (.tmp 30) (.tmp 32) 40 rfl 0 82 ie _ 65 72 Try.underlying40 HII.out HZ0.out HZ1.out HZ2.out pwrite_zsize (by decide) _ d.waits.length (xv d.waits) rfl HWA.out ⟨W.drew.heap.size, 0, none⟩ 1 1 cs rfl (by rw [HX1.out]) HNEW.out HCO1.out (by omega) (by have := HWB.out; unfold maxLen; omega) (by have := HWB.out; omega) (Nat.zero_le _) _ rfl ?_
          intro g2 cp2 w2 ho2 hg2 ha2 hl2
          refine hK _ _ ?_
          clear hK K
          simp only [Act.put, List.setIfInBounds_toArray, List.set_cons_zero, List.set_cons_succ, List.getElem_toArray, List.getElem_cons_succ, List.getElem_cons_zero]
          obtain ⟨hm2, cc, ff⟩ := HFIN.out w2 hg2
          have h4 := hide (HPW2.out w2 _ hm2 (by have := ho2; rw [List.length_append, List.length_singleton]; rw [HXV.out] at this; exact this))
          have HM4 := hide ((hm2.mono (G := fun k => k = g ∨ vw.ownBlock = some k) fun k _ q => .inr q).trans (Mod.one w2 g 1 (.slice (some ⟨g2, 0, none⟩) (d.waits.length + 1) cp2)) fun i q => .inl (.inl q))
          have HV2 : Hid (∀ q, (Value.slice (some ⟨g2, 0, none⟩) (d.waits.length + 1) cp2).ownBlock = some q → vw.ownBlock = some q ∨ w.heap.size ≤ q) := hide (HV3.out g2 cp2 ha2)
          clear ho2 hg2 ha2 hl2 hm2
          refine wpAny_take (i := 8) (v := .pointer (some ⟨g, 0, none⟩)) rfl (by kernel_rfl) (by kernel_rfl) (by kernel_rfl) (fun _ _ _ h => h) (Or.inl ⟨by rfl, fun w' => by go_simp⟩) ?_
          simp only [Act.put, List.setIfInBounds_toArray, List.set_cons_zero, List.set_cons_succ, List.getElem_toArray, List.getElem_cons_succ, List.getElem_cons_zero]
          refine wpAny_take (i := 9) (v := .pointer (some ⟨g, 1, none⟩)) rfl (by kernel_rfl) (by kernel_rfl) (by kernel_rfl) (fun _ _ _ h => h) (Or.inl ⟨by rfl, fun w' => by go_simp⟩) ?_
          simp only [Act.put, List.setIfInBounds_toArray, List.set_cons_zero, List.set_cons_succ, List.getElem_toArray, List.getElem_cons_succ, List.getElem_cons_zero]
          refine wpAny_ready (rs := [10]) (by kernel_rfl) (by simp) ?_
          refine AllReady.cons rfl (fun K hK => ?_) AllReady.nil
          go_simp
          refine hK _ _ ?_
          clear hK K
          refine wpAny_done (by kernel_rfl) ?_ _
          dsimp only [Cm]
          have HST := hide (pstep_any _ g gl cl _ _ h4.out HS.out HLF.out HH0.out)
          clear cc ff
          go_wp2_with fail
          refine HST.out.mono ?_
          rintro e w5 ⟨⟨v, rfl⟩, hr5, hm5⟩
          have HR5 := hide hr5
          have HM5 := hide (HM4.out.trans hm5 fun i q => .inl (.inl q))
          clear hr5 hm5 HST
          go_wp2
          go_ret
          exact ⟨rfl, _, HR5.out, HM5.out, HV2.out⟩
        · rw [if_pos (by rfl)]
          refine wp_load_mid 82 _ rfl w.heap.size 0 rfl cs _ HR82.out Try.underlying82 rfl HXI.out ?_
          refine hK _ _ ?_
          clear hK K
          simp only [Act.put, List.setIfInBounds_toArray, List.set_cons_zero, List.set_cons_succ, List.getElem_toArray, List.getElem_cons_succ, List.getElem_cons_zero]
          refine wpAny_ready (rs := [4, 6]) (by kernel_rfl) (by simp) ?_
          refine AllReady.cons rfl (fun K hK => ?_) (AllReady.cons rfl (fun K hK => ?_) AllReady.nil)
          · go_simp
            refine hK _ _ ?_
            clear hK K
            refine wpAny_ready (rs := [6]) (by kernel_rfl) (by simp) ?_
            refine AllReady.cons rfl (fun K hK => ?_) AllReady.nil
            rw [if_pos (by rfl)]
            refine op_buildSlice 40 _ rfl rfl (hbs _) ?_
            refine hK _ _ ?_
            clear hK K
            simp only [Act.put, List.setIfInBounds_toArray, List.set_cons_zero, List.set_cons_succ, List.getElem_toArray, List.getElem_cons_succ, List.getElem_cons_zero]
            refine wpAny_ready (rs := [7]) (by kernel_rfl) (by simp) ?_
            refine AllReady.cons rfl (fun K hK => ?_) AllReady.nil
            refine step_append_lies _ rfl (.tmp 30) (.tmp 32) 40 rfl 0 82 ie _ 65 72 Try.underlying40 HII.out HZ0.out HZ1.out HZ2.out pwrite_zsize (by decide) _ d.waits.length (xv d.waits) rfl HWA.out ⟨W.drew.heap.size, 0, none⟩ 1 1 cs rfl (by rw [HX1.out]) HNEW.out HCO1.out (by omega) (by have := HWB.out; unfold maxLen; omega) (by have := HWB.out; omega) (Nat.zero_le _) _ rfl ?_
            intro g2 cp2 w2 ho2 hg2 ha2 hl2
            refine hK _ _ ?_
            clear hK K
            simp only [Act.put, List.setIfInBounds_toArray, List.set_cons_zero, List.set_cons_succ, List.getElem_toArray, List.getElem_cons_succ, List.getElem_cons_zero]
            obtain ⟨hm2, cc, ff⟩ := HFIN.out w2 hg2
            have h4 := hide (HPW2.out w2 _ hm2 (by have := ho2; rw [List.length_append, List.length_singleton]; rw [HXV.out] at this; exact this))
            have HM4 := hide ((hm2.mono (G := fun k => k = g ∨ vw.ownBlock = some k) fun k _ q => .inr q).trans (Mod.one w2 g 1 (.slice (some ⟨g2, 0, none⟩) (d.waits.length + 1) cp2)) fun i q => .inl (.inl q))
            have HV2 : Hid (∀ q, (Value.slice (some ⟨g2, 0, none⟩) (d.waits.length + 1) cp2).ownBlock = some q → vw.ownBlock = some q ∨ w.heap.size ≤ q) := hide (HV3.out g2 cp2 ha2)
            clear ho2 hg2 ha2 hl2 hm2
            refine wpAny_take (i := 8) (v := .pointer (some ⟨g, 0, none⟩)) rfl (by kernel_rfl) (by kernel_rfl) (by kernel_rfl) (fun _ _ _ h => h) (Or.inl ⟨by rfl, fun w' => by go_simp⟩) ?_
            simp only [Act.put, List.setIfInBounds_toArray, List.set_cons_zero, List.set_cons_succ, List.getElem_toArray, List.getElem_cons_succ, List.getElem_cons_zero]
            refine wpAny_take (i := 9) (v := .pointer (some ⟨g, 1, none⟩)) rfl (by kernel_rfl) (by kernel_rfl) (by kernel_rfl) (fun _ _ _ h => h) (Or.inl ⟨by rfl, fun w' => by go_simp⟩) ?_
            simp only [Act.put, List.setIfInBounds_toArray, List.set_cons_zero, List.set_cons_succ, List.getElem_toArray, List.getElem_cons_succ, List.getElem_cons_zero]
            refine wpAny_ready (rs := [10]) (by kernel_rfl) (by simp) ?_
            refine AllReady.cons rfl (fun K hK => ?_) AllReady.nil
            go_simp
            refine hK _ _ ?_
            clear hK K
            refine wpAny_done (by kernel_rfl) ?_ _
            dsimp only [Cm]
            have HST := hide (pstep_any _ g gl cl _ _ h4.out HS.out HLF.out HH0.out)
            clear cc ff
            go_wp2_with fail
            refine HST.out.mono ?_
            rintro e w5 ⟨⟨v, rfl⟩, hr5, hm5⟩
            have HR5 := hide hr5
            have HM5 := hide (HM4.out.trans hm5 fun i q => .inl (.inl q))
            clear hr5 hm5 HST
            go_wp2
            go_ret
            exact ⟨rfl, _, HR5.out, HM5.out, HV2.out⟩
          · rw [if_pos (by rfl)]
            refine op_buildSlice 40 _ rfl rfl (hbs _) ?_
            refine hK _ _ ?_
            clear hK K
            simp only [Act.put, List.setIfInBounds_toArray, List.set_cons_zero, List.set_cons_succ, List.getElem_toArray, List.getElem_cons_succ, List.getElem_cons_zero]
            refine wpAny_ready (rs := [4]) (by kernel_rfl) (by simp) ?_
            refine AllReady.cons rfl (fun K hK => ?_) AllReady.nil
            go_simp
            refine hK _ _ ?_
            clear hK K
            refine wpAny_ready (rs := [7]) (by kernel_rfl) (by simp) ?_
            refine AllReady.cons rfl (fun K hK => ?_) AllReady.nil
            refine step_append_lies _ rfl (.tmp 30) (.tmp 32) 40 rfl 0 82 ie _ 65 72 Try.underlying40 HII.out HZ0.out HZ1.out HZ2.out pwrite_zsize (by decide) _ d.waits.length (xv d.waits) rfl HWA.out ⟨W.drew.heap.size, 0, none⟩ 1 1 cs rfl (by rw [HX1.out]) HNEW.out HCO1.out (by omega) (by have := HWB.out; unfold maxLen; omega) (by have := HWB.out; omega) (Nat.zero_le _) _ rfl ?_
            intro g2 cp2 w2 ho2 hg2 ha2 hl2
            refine hK _ _ ?_
            clear hK K
            simp only [Act.put, List.setIfInBounds_toArray, List.set_cons_zero, List.set_cons_succ, List.getElem_toArray, List.getElem_cons_succ, List.getElem_cons_zero]
            obtain ⟨hm2, cc, ff⟩ := HFIN.out w2 hg2
            have h4 := hide (HPW2.out w2 _ hm2 (by have := ho2; rw [List.length_append, List.length_singleton]; rw [HXV.out] at this; exact this))
            have HM4 := hide ((hm2.mono (G := fun k => k = g ∨ vw.ownBlock = some k) fun k _ q => .inr q).trans (Mod.one w2 g 1 (.slice (some ⟨g2, 0, none⟩) (d.waits.length + 1) cp2)) fun i q => .inl (.inl q))
            have HV2 : Hid (∀ q, (Value.slice (some ⟨g2, 0, none⟩) (d.waits.length + 1) cp2).ownBlock = some q → vw.ownBlock = some q ∨ w.heap.size ≤ q) := hide (HV3.out g2 cp2 ha2)
            clear ho2 hg2 ha2 hl2 hm2
            refine wpAny_take (i := 8) (v := .pointer (some ⟨g, 0, none⟩)) rfl (by kernel_rfl) (by kernel_rfl) (by kernel_rfl) (fun _ _ _ h => h) (Or.inl ⟨by rfl, fun w' => by go_simp⟩) ?_
            simp only [Act.put, List.setIfInBounds_toArray, List.set_cons_zero, List.set_cons_succ, List.getElem_toArray, List.getElem_cons_succ, List.getElem_cons_zero]
            refine wpAny_take (i := 9) (v := .pointer (some ⟨g, 1, none⟩)) rfl (by kernel_rfl) (by kernel_rfl) (by kernel_rfl) (fun _ _ _ h => h) (Or.inl ⟨by rfl, fun w' => by go_simp⟩) ?_
            simp only [Act.put, List.setIfInBounds_toArray, List.set_cons_zero, List.set_cons_succ, List.getElem_toArray, List.getElem_cons_succ, List.getElem_cons_zero]
            refine wpAny_ready (rs := [10]) (by kernel_rfl) (by simp) ?_
            refine AllReady.cons rfl (fun K hK => ?_) AllReady.nil
            go_simp
            refine hK _ _ ?_
            clear hK K
            refine wpAny_done (by kernel_rfl) ?_ _
            dsimp only [Cm]
            have HST := hide (pstep_any _ g gl cl _ _ h4.out HS.out HLF.out HH0.out)
            clear cc ff
            go_wp2_with fail
            refine HST.out.mono ?_
            rintro e w5 ⟨⟨v, rfl⟩, hr5, hm5⟩
            have HR5 := hide hr5
            have HM5 := hide (HM4.out.trans hm5 fun i q => .inl (.inl q))
            clear hr5 hm5 HST
            go_wp2
            go_ret
            exact ⟨rfl, _, HR5.out, HM5.out, HV2.out⟩
    · have e : Dk.WR d n b = (d, 2) := by unfold Dk.WR; rw [if_neg (by simpa using hn), if_pos (by rw [hbl]; exact hl)]
      have hzb : ((m : Int) != 64) = true := bne_iff_ne.2 (by omega)
      rw [e]
      have H := hide h
      clear h HI HD hn e hs hlf hr hb hbl
      go_enter Try.func17, Try.ntmps17
      go_wp2_with fail
      refine HI1.out.mono ?_
      rintro e w1 ⟨rfl, rfl⟩
      go_wp2
      go_ret
      exact ⟨rfl, _, H.out, Mod.refl _ _, fun k hk => .inl hk⟩
  · have HI1 := hide (HI.out 4 (by rw [if_neg hn]))
    have e : Dk.WR d n b = (d, 4) := by unfold Dk.WR; rw [if_pos hn]
    rw [e]
    have H := hide h
    clear h HI HD hn e hs hlf hr hb hbl
    go_enter Try.func17, Try.ntmps17
    go_wp2_with fail
    refine HI1.out.mono ?_
    rintro e w1 ⟨rfl, rfl⟩
    go_wp2
    go_ret
    exact ⟨rfl, _, H.out, Mod.refl _ _, fun k hk => .inl hk⟩
end Go.Proofs.Ythhfgcpflclflaa
