/- The program's disk: Flush. -/
import Derived.Test.YthhfgcpflclflaaWa17
namespace Go.Proofs.Ythhfgcpflclflaa
open Go.RowKit Go.Shelf
set_option linter.unusedVariables false
set_option maxHeartbeats 1000000
set_option maxRecDepth 100000
attribute [local go_sem] Oper.semAt_some
/-- What a flush keeps while it goes through what waits. -/
structure FM (w : World) (g gl cl : Nat) (vw : Value) (d : Dk.Ds) (pre : List (Nat × List Int)) (X : World) : Prop where
  disk : PD17 X g gl cl vw { d with lies := Dk.fw d.waits d.lies pre.length }
  b1 : Boxed X w.heap.size 23 (.pointer (some ⟨g, 0, none⟩))
  b2 : Boxed X (w.heap.size + 1) 23 (.pointer (some ⟨g, 0, none⟩))
  mod : Mod (fun k => k = gl) w X
theorem PD17.ch {g gl cl : Nat} {vw : Value} {d : Dk.Ds} {X Y : World} {B : Nat} (h : PD17 X g gl cl vw d) (hc : Ch true B X Y) : PD17 Y g gl cl vw d :=
  ⟨hc.cells rfl _ _ h.disk rfl, owns_ch17 h.lies hc, owns_ch17 h.waits hc, h.wf⟩
theorem FM.ch {w : World} {g gl cl : Nat} {vw : Value} {d : Dk.Ds} {pre : List (Nat × List Int)} {X Y : World} {B : Nat} (h : FM w g gl cl vw d pre X) (hc : Ch true B X Y) (hB : w.heap.size ≤ B) : FM w g gl cl vw d pre Y :=
  ⟨h.disk.ch hc, hc.cells rfl _ _ h.b1 rfl, hc.cells rfl _ _ h.b2 rfl, h.mod.trans (Mod.of_below (F := fun k => w.heap.size ≤ k) (hc.below.mono hB) fun k hk _ => hk) fun i hi => .inr hi⟩
theorem Mod.put17 {w X : World} (hs : w.heap.size ≤ X.heap.size) {D : Nat} {o o' : Obj} (h : X.heap[D]? = some o) : Mod (fun k => k = D) X (X.putObj D o') :=
  ⟨rfl, rfl, rfl, by simp, fun k _ hn => World.putObj_heap_other hn⟩
theorem pflush_any (w : World) (g gl cl : Nat) (vw : Value) (d : Dk.Ds) (h : PD17 w g gl cl vw d) (hs : d.steps ≤ 4611686018427387904) (hlf : d.left ≤ 9223372036854775807) :
    Calls Try.prog 18 #[.pointer (some ⟨g, 0, none⟩)] w fun e w' => e = .returned (.int .i64 (Dk.FL d).2) ∧ ∃ vw', PD17 w' g gl cl vw' (Dk.FL d).1 ∧ Mod (fun k => k = g ∨ k = gl) w w' ∧ ∀ k, vw'.ownBlock = some k → vw.ownBlock = some k := by
  have KA := hide (show KO w (w.alloc (.cells #[.pointer (some ⟨g, 0, none⟩)] 23)) from KO.alloc (KO.refl w) _)
  have hV := h.ko KA.out
  obtain ⟨V, hVV⟩ : ∃ V, w.alloc (.cells #[.pointer (some ⟨g, 0, none⟩)] 23) = V := ⟨_, rfl⟩
  have HVN := hide hVV
  have HBV : Hid (Boxed V w.heap.size 23 (.pointer (some ⟨g, 0, none⟩))) := hide (by rw [← hVV]; exact Boxed.new w _ _)
  have HVS : Hid (V.heap.size = w.heap.size + 1) := hide (by rw [← hVV]; simp)
  rw [hVV] at hV KA
  have HST := hide (pstands_any V g gl cl vw d hV)
  have HDN := hide (fun r hr => pdown_any V g gl cl vw d hV r hr)
  have HV := hide hV
  have c0b := HBV.out.cell
  by_cases h0 : d.left = 0
  · have e : Dk.FL d = (d, 170) := by unfold Dk.FL; rw [if_pos h0]
    have HD1 := hide (HDN.out true (by rw [h0]; rfl))
    rw [e]
    clear h hV h0 e HDN hVV
    go_enter Try.func18, Try.ntmps18
    go_wp2_with fail
    rw [HVN.out]
    refine HST.out.mono ?_
    rintro e w1 ⟨rfl, rfl⟩
    go_wp2_with fail
    refine HD1.out.mono ?_
    rintro e w1 ⟨rfl, rfl⟩
    go_wp2
    go_ret
    exact ⟨rfl, _, HV.out, Mod.of_ko KA.out, fun k hk => hk⟩
  · have e : Dk.FL d = (Dk.tick { d with lies := Dk.fw d.waits d.lies d.waits.length, waits := [] }, 0) := by unfold Dk.FL; rw [if_neg h0]
    have HD1 := hide (HDN.out false (by rw [decide_eq_false h0]))
    obtain ⟨aw, cw, hvw, hle, hcw, hrow⟩ := h.waitL
    have H := hide h
    have HROW := hide hrow
    have HXL := hide (waits_len h.wf)
    have HLE := hide hle
    have HCW := hide hcw
    have HVW := hide hvw
    have HH0 := hide h0
    have HS := hide hs
    have HLF := hide hlf
    obtain ⟨Z, hZ, hz⟩ := zero_sector
    have HZ := hide hZ
    have hgs := (Array.getElem?_eq_some_iff.1 h.disk).1
    rw [e]
    clear h hV h0 e HDN hVV hrow hle hcw hvw hs hlf hZ
    refine (callsIn_wide (n := 3)).1 ?_
    refine callsIn_of_wp_marks Try.func18 rfl trivial ?_
    simp only [Try.ntmps18, List.size_toArray, List.length_cons, List.length_nil, Nat.reduceAdd, Nat.reduceSub, Array.replicate_succ, Array.replicate_zero, List.push_toArray, List.append_toArray, List.nil_append, List.cons_append]
    gi_wp2_with fail
    rw [HVN.out]
    refine ⟨trivial, ?_⟩
    refine (callsIn_wide.2 HST.out).mono ?_
    rintro e w1 ⟨rfl, rfl⟩
    gi_wp2_with fail
    refine ⟨trivial, ?_⟩
    refine (callsIn_wide.2 HD1.out).mono ?_
    rintro e w1 ⟨rfl, rfl⟩
    gi_wp2_with fail
    refine ⟨trivial, ?_⟩
    refine (callsIn_wide.2 (waiting_any g V)).mono ?_
    rintro e w1 ⟨rfl, hw1⟩
    rw [HVS.out]
    have h00 : FM w g gl cl vw d [] w1 := by
      subst hw1
      refine ⟨HV.out.ko (KO.alloc (KO.refl V) _), HBV.out.alloc _, ?_, (Mod.of_ko KA.out).alloc _⟩
      have := Boxed.new V 23 (.pointer (some ⟨g, 0, none⟩))
      rw [HVS.out] at this
      exact this
    have hws : w1.heap.size = w.heap.size + 2 := by rw [hw1]; simp; have := HVS.out; omega
    have HWS := hide hws
    have H0 := hide h00
    clear hw1 h00 hws c0b
    gi_wp2_with fail
    refine wpIn_rangeC (gf := 44) (lb := #[.pointer (some ⟨w.heap.size + 1, 0, none⟩)]) rfl (enters_of Try.func44 (by kernel_rfl) rfl) (waiting1_any true Far (fun _ _ _ h => h.size) (w.heap.size + 1) g aw cw d.waits HXL.out HLE.out HCW.out) (fun _ => rfl)
      (fun pre X => FM w g gl cl vw d pre X) (fun c pre X => False) (fun pre X hX => ⟨hX.b2.cell, by rw [← HVW.out]; exact hX.disk.cells.2.1, HROW.out X _ hX.disk⟩)
      (fun pre X Y hX hc => hX.ch hc (by have := HWS.out; omega)) (fun c pre X Y hX hc => hX.elim) H0.out
      ?ac
      (fun x X => X.alloc (.cells (u6 x.2).toArray 75)) (fun x X => (Below.refl _ _).alloc (Nat.le_refl _) _) ?assign ?body ?done ?stop
    case assign =>
      intro m l x W K hK
      unfold encw
      gi_wp2_with (refine wpListIn_store_new rfl rfl 75 _ _ rfl rfl Z (u6 x.2).toArray rfl (u6_info x.2) (u6_zero HZ.out x.2) (all_oneCell_toArray (u6_one x.2)) ?_)
      exact hK
    case body =>
      rintro m y pre x X0 X hM hpre hXs hnew hsz1
      have hpa := prefix_at hpre
      have hpl : pre.length < d.waits.length := (List.getElem?_eq_some_iff.1 hpa.1).1
      have hx : d.waits.getD pre.length (0, []) = x := by
        have := hpa.1
        simp [List.getD, this]
      have hxw := H.out.wf.waits x (hx ▸ Dk.wait_at hpl)
      have hxl : (uv x.2).length = 64 := by rw [uv_len]; exact hxw.2.1
      have hblk : X.heap[X0.heap.size]? = some (.cells (uv x.2).toArray 75 (0, 0)) := by
        rw [hnew _ (Nat.le_refl _), u6_eq hxl]
        exact World.alloc_heap_new X0 _
      have hfl : (Dk.fw d.waits d.lies pre.length).length = d.lies.length := Dk.fw_len _
      have c0 := hM.disk.cells.1
      dsimp only at c0
      rw [hfl] at c0
      have cb := hM.b1.cell
      have hth := hM.disk.may (n := x.1) (by show _ < (Dk.fw d.waits d.lies pre.length).length; rw [hfl]; exact hxw.1)
      have hrg := blk_range hblk 0 (uv x.2) (fun j v hj => by rw [Nat.zero_add]; exact hj)
      have hgl : gl < w.heap.size := H.out.lt gl (.inr (.inl rfl))
      have hgg : g < w.heap.size := H.out.lt g (.inl rfl)
      have hne := H.out.ne1
      have hX0 : w1.heap.size ≤ X0.heap.size := hXs
      have hws := HWS.out
      have hS0 : Mod (fun k => k = gl) X X.drew := Mod.of_ko (below_drewN X 1)
      have hall : ∀ w', Mod (fun k => k = gl) X w' → w'.there gl (x.1 * 64) 64 → (w'.cell? ⟨w.heap.size, 0, none⟩ = some (.pointer (some ⟨g, 0, none⟩)) ∧ w'.cell? ⟨g, 0, none⟩ = some (.slice (some ⟨gl, 0, none⟩) d.lies.length cl) ∧ w'.rangeAt X0.heap.size 0 (uv x.2) ∧ w'.there gl (x.1 * 64) 64) := fun w' hm ht =>
        ⟨hm.cell (by show ¬ w.heap.size = gl; omega) cb, hm.cell (fun q => hne q.symm) c0, range_mod hm (by show ¬ X0.heap.size = gl; omega) hrg, ht⟩
      have hS1 : Mod (fun k => k = gl) X (X.drew.setCells gl (x.1 * 64) (uv x.2)) := hS0.cells _ _ (.inl rfl)
      have hA0 := hall _ hS0 (by rw [World.there_drew]; exact hth)
      have hA1 := hide (hall _ hS1 (World.there_setCells (by rw [World.there_drew]; exact hth) _ _ _))
      have HTH := hide hA0.2.2.2
      have HNX : Hid (FM w g gl cl vw d (pre ++ [x]) (X.drew.setCells gl (x.1 * 64) (uv x.2))) := hide (by
        have hD := hM.disk.drewN 1
        have hP := hD.lies' x.1 x.2 (by show _ < (Dk.fw d.waits d.lies pre.length).length; rw [hfl]; exact hxw.1) hxw.2
        refine ⟨?_, ?_, ?_, ?_⟩
        · rw [List.length_append, List.length_singleton, Dk.fw, hx]
          exact hP
        · exact (hS1.block _ hM.b1.lt (by omega)).trans hM.b1
        · exact (hS1.block _ hM.b2.lt (by omega)).trans hM.b2
        · exact hM.mod.trans hS1 fun i q => .inl q)
      have HFar : Hid (Far w1.heap.size X (X.drew.setCells gl (x.1 * 64) (uv x.2))) := hide ((Far.of_below (below_drewN X 1)).trans (far_cells _ _ _))
      have hki : (x.1 : Int) < (d.lies.length : Int) := by have := hxw.1; omega
      have hcone := uv_one x.2
      have hsz : (Try.prog.info? 75).map (·.size) = some (uv x.2).length := by rw [hxl]; exact sector_size
      have hxl2 := hxl
      rw [u6_eq hxl]
      clear hpa hpl hx hxw hblk hfl c0 cb hth hrg hall hS0 hS1 hM hpre hnew hsz1
      generalize uv x.2 = cs at *
      generalize x.1 = kx at *
      generalize d.lies.length = nl at *
      generalize hQ : rPostC _ _ _ _ X = Q
      have HQ := hide hQ
      clear hQ
      gi_wp2_with fail
      refine wpIn_round_held (fun w' => w'.cell? ⟨w.heap.size, 0, none⟩ = some (.pointer (some ⟨g, 0, none⟩)) ∧ w'.cell? ⟨g, 0, none⟩ = some (.slice (some ⟨gl, 0, none⟩) nl cl) ∧ w'.rangeAt X0.heap.size 0 cs ∧ w'.there gl (kx * 64) 64) (by kernel_rfl) (calm_of (by simp)) 8 rfl hA0 (fun hHeld => ?_)
      refine wpAnyH_take (i := 0) (v := .pointer (some ⟨g, 0, none⟩)) rfl (by kernel_rfl) (by kernel_rfl) (by kernel_rfl) (fun _ _ _ h => h) (Or.inl ⟨by rfl, ?_⟩) hHeld ?_
      · intro w' hSw
        obtain ⟨q0, q1, q2, q3⟩ := hSw
        go_simp
      simp only [Act.put, List.setIfInBounds_toArray, List.set_cons_zero, List.set_cons_succ, List.getElem_toArray, List.getElem_cons_zero]
      refine wpAnyH_take (i := 1) (v := .pointer (some ⟨g, 0, none⟩)) rfl (by kernel_rfl) (by kernel_rfl) (by kernel_rfl) (fun _ _ _ h => h) (Or.inl ⟨by rfl, ?_⟩) hHeld ?_
      · intro w' hSw
        obtain ⟨q0, q1, q2, q3⟩ := hSw
        go_simp
      simp only [Act.put, List.setIfInBounds_toArray, List.set_cons_zero, List.set_cons_succ, List.getElem_toArray, List.getElem_cons_succ, List.getElem_cons_zero]
      refine wpAnyH_take (i := 2) (v := .pointer (some ⟨g, 0, none⟩)) rfl (by kernel_rfl) (by kernel_rfl) (by kernel_rfl) (fun _ _ _ h => h) (Or.inl ⟨by rfl, ?_⟩) hHeld ?_
      · intro w' hSw
        obtain ⟨q0, q1, q2, q3⟩ := hSw
        go_simp
      simp only [Act.put, List.setIfInBounds_toArray, List.set_cons_zero, List.set_cons_succ, List.getElem_toArray, List.getElem_cons_succ, List.getElem_cons_zero]
      refine wpAnyH_take (i := 3) (v := .slice (some ⟨gl, 0, none⟩) nl cl) rfl (by kernel_rfl) (by kernel_rfl) (by kernel_rfl) (fun _ _ _ h => h) (Or.inl ⟨by rfl, ?_⟩) hHeld ?_
      · intro w' hSw
        obtain ⟨q0, q1, q2, q3⟩ := hSw
        go_simp
      simp only [Act.put, List.setIfInBounds_toArray, List.set_cons_zero, List.set_cons_succ, List.getElem_toArray, List.getElem_cons_succ, List.getElem_cons_zero]
      refine wpAnyH_take (i := 4) (v := .int .i64 (kx : Int)) rfl (by kernel_rfl) (by kernel_rfl) (by kernel_rfl) (fun _ _ _ h => h) (Or.inl ⟨by rfl, ?_⟩) hHeld ?_
      · intro w' hSw
        obtain ⟨q0, q1, q2, q3⟩ := hSw
        go_simp
      simp only [Act.put, List.setIfInBounds_toArray, List.set_cons_zero, List.set_cons_succ, List.getElem_toArray, List.getElem_cons_succ, List.getElem_cons_zero]
      refine wpAnyH_take (i := 5) rfl (by kernel_rfl) (by kernel_rfl) (by kernel_rfl) (fun _ _ _ h => h) (yieldsIf_load_mid (by rfl) 75 _ rfl X0.heap.size (0) rfl cs _ (fun w' hSw => hSw.2.2.1) Try.underlying75 rfl hsz) hHeld ?_
      simp only [Act.put, List.setIfInBounds_toArray, List.set_cons_zero, List.set_cons_succ, List.getElem_toArray, List.getElem_cons_succ, List.getElem_cons_zero]
      refine wpAnyH_take (i := 6) (v := .pointer (some ⟨gl, kx * 64, none⟩)) rfl (by kernel_rfl) (by kernel_rfl) (by kernel_rfl) (fun _ _ _ h => h) (Or.inl ⟨by rfl, ?_⟩) hHeld ?_
      · intro w' hSw
        obtain ⟨q0, q1, q2, q3⟩ := hSw
        go_simp
      simp only [Act.put, List.setIfInBounds_toArray, List.set_cons_zero, List.set_cons_succ, List.getElem_toArray, List.getElem_cons_succ, List.getElem_cons_zero]
      refine wpAnyH_ready (rs := [7]) (by kernel_rfl) (by simp) ?_
      refine AllReadyH.cons rfl (fun K hK => ?_) AllReadyH.nil
      rw [if_pos (by rfl)]
      refine wp_store_mid 75 _ _ rfl gl (kx * 64) cs.toArray rfl rfl ?_ ?_ (all_oneCell_toArray hcone) ?_
      · rw [List.size_toArray, hxl2]; exact HTH.out
      · rw [List.size_toArray]; exact hsz
      refine hK.out _ _ hA1.out (fun hHeld => ?_)
      refine wpAnyH_done (by kernel_rfl) ?_ _
      show Q .normal _ _
      rw [← HQ.out]
      exact ⟨HFar.out, HNX.out⟩
    case done =>
      rintro D W hD hWs hM hK
      have hgl : gl < w.heap.size := H.out.lt gl (.inr (.inl rfl))
      have hgg : g < w.heap.size := H.out.lt g (.inl rfl)
      have hws := HWS.out
      have c1 := hM.disk.cells.2.1
      have f1 := hM.disk.fz 1
      have cb := hM.b1.cell
      have h4 := hM.disk.waits' (v2 := .slice none 0 0) (ws := []) (World.ownsRow_nil _ _ _ _) (fun x hx => by cases hx)
      have HSP := hide (pstep_any _ g gl cl _ _ h4 HS.out HLF.out HH0.out)
      have HM1 := hide (Mod.one W g 1 (.slice none 0 0))
      have cb1 : (W.setCell ⟨g, 1, none⟩ (.slice none 0 0)).cell? ⟨w.heap.size, 0, none⟩ = some (.pointer (some ⟨g, 0, none⟩)) := HM1.out.cell (by show ¬ w.heap.size = g; omega) cb
      have HM := hide hM
      have HK := hide hK
      have HDD := hide hD
      clear hM h4 hK hD hWs
      gi_wp2_with fail
      refine ⟨trivial, ?_⟩
      refine (callsIn_wide.2 HSP.out).mono ?_
      rintro e w5 ⟨⟨v, rfl⟩, hr5, hm5⟩
      have HR5 := hide hr5
      have hmm : Mod (fun k => k = g) W w5 := HM1.out.trans hm5 fun i q => .inl q
      have HK5 : Hid (w5.heap[D]? = some (.deferred (some []))) := hide (by
        rw [hmm.block D (Array.getElem?_eq_some_iff.1 HK.out).1 (by have := HDD.out; omega)]
        exact HK.out)
      have HM5 : Hid (Mod (fun k => k = g ∨ k = gl) w w5) := hide ((HM.out.mod.mono fun k _ q => .inr q).trans hmm fun i q => .inl (.inl q))
      clear hr5 hm5 HSP hmm
      gi_wp2_with fail
      refine ⟨by simp, .inl ⟨_, _, rfl, run_takeDeferred HK5.out, ?_⟩⟩
      have hDw : w.heap.size ≤ D := by have := HDD.out; omega
      refine ⟨_, results_tmp rfl _ _ _, rfl, .slice none 0 0, ?_, ?_, fun k hk => by cases hk⟩
      · refine HR5.out.keep (F := fun k => k = D) (Mod.put17 HM5.out.size HK5.out) fun k hk q => ?_
        have := HR5.out.lt k hk
        rcases hk with rfl | rfl | hk
        · omega
        · omega
        · cases hk
      · exact HM5.out.trans (Mod.put17 HM5.out.size HK5.out) fun i q => .inr (by rw [q]; exact hDw)
    case stop =>
      rintro D c pre W hD hWs hpre hM hK
      exact hM.elim
end Go.Proofs.Ythhfgcpflclflaa
