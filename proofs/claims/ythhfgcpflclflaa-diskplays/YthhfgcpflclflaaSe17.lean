/- The program's disk: a sector as it would be, Read. -/
import Derived.Test.YthhfgcpflclflaaBk17
import Derived.Deep.QuietTactic
import Derived.BigQuiet
import Derived.Deep.RegionHeld3
import Derived.RangeFuncBox
namespace Go.Proofs.Ythhfgcpflclflaa
open Go.RowKit Go.Shelf
set_option linter.unusedVariables false
set_option maxHeartbeats 1000000
set_option maxRecDepth 100000
attribute [local go_sem] Oper.semAt_some
theorem rw_skip {ws : List (Nat × List Int)} {n : Nat} {s : List Int} {i : Nat} : ∀ m, i ≤ m → (∀ j, i ≤ j → j < m → (ws.getD j (0, [])).1 ≠ n) → Dk.rw' ws n s m = Dk.rw' ws n s i
  | 0, h, _ => by rw [show i = 0 from by omega]
  | m + 1, h, hj => by
    by_cases e : i = m + 1
    · rw [e]
    · rw [Dk.rw', if_neg (hj m (by omega) (by omega))]
      exact rw_skip m (by omega) fun j h1 h2 => hj j h1 (by omega)
theorem PD17.waitO {w : World} {g gl cl : Nat} {vw : Value} {d : Dk.Ds} (h : PD17 w g gl cl vw d) : ∃ aw cw, vw = .slice aw d.waits.length cw ∧ d.waits.length ≤ cw ∧ cw ≤ 2 ^ 63 - 1 ∧ ∀ X, PD17 X g gl cl vw d → ∀ k, k < d.waits.length → ∃ gw, aw = some ⟨gw, 0, none⟩ ∧ X.rangeAt gw (k * 65) (xe (d.waits.getD k (0, []))) := by
  obtain ⟨aw, cw, e, h1, h2⟩ := h.form
  refine ⟨aw, cw, e, h1, h2, fun X hX k hk => ?_⟩
  obtain ⟨gw, cw2, e2, hr⟩ := hX.wait (by omega)
  rw [e] at e2
  simp only [Value.slice.injEq] at e2
  exact ⟨gw, e2.1, hr k hk⟩
theorem PD17.waitL {w : World} {g gl cl : Nat} {vw : Value} {d : Dk.Ds} (h : PD17 w g gl cl vw d) : ∃ aw cw, vw = .slice aw d.waits.length cw ∧ d.waits.length ≤ cw ∧ cw ≤ 2 ^ 63 - 1 ∧ ∀ X ls, PD17 X g gl cl vw { d with lies := ls } → ∀ k, k < d.waits.length → ∃ gw, aw = some ⟨gw, 0, none⟩ ∧ X.rangeAt gw (k * 65) (xe (d.waits.getD k (0, []))) := by
  obtain ⟨aw, cw, e, h1, h2⟩ := h.form
  refine ⟨aw, cw, e, h1, h2, fun X ls hX k hk => ?_⟩
  obtain ⟨gw, cw2, e2, hr⟩ := hX.wait (by exact Nat.lt_of_le_of_lt (Nat.zero_le _) hk)
  rw [e] at e2
  simp only [Value.slice.injEq] at e2
  exact ⟨gw, e2.1, hr k hk⟩
/-- What a look through what waits keeps. -/
structure SE (w : World) (g gl cl : Nat) (vw : Value) (d : Dk.Ds) (n : Nat) (pre : List (Nat × (Nat × List Int))) (X : World) : Prop where
  num : X.cell? ⟨w.heap.size, 0, none⟩ = some (.int .i64 (n : Int))
  res : ∃ Z : List Value, Z.length = 64 ∧ X.heap[w.heap.size + 1]? = some (.cells Z.toArray 75 (0, 0))
  box : X.cell? ⟨w.heap.size + 2, 0, none⟩ = some vw
  old : KO w X
  not : ∀ j, d.waits.length - pre.length ≤ j → j < d.waits.length → (d.waits.getD j (0, [])).1 ≠ n
theorem SE.ch {w : World} {g gl cl : Nat} {vw : Value} {d : Dk.Ds} {n : Nat} {pre : List (Nat × (Nat × List Int))} {X Y : World} {B : Nat} (h : SE w g gl cl vw d n pre X) (hc : Ch true B X Y) (hB : w.heap.size ≤ B) : SE w g gl cl vw d n pre Y := by
  obtain ⟨Z, hZ, hz⟩ := h.res
  exact ⟨hc.cell h.num, ⟨Z, hZ, hc.cells rfl _ _ hz rfl⟩, hc.cell h.box, h.old.trans (hc.below.mono hB), h.not⟩
theorem pseen_any (w : World) (g gl cl : Nat) (vw : Value) (d : Dk.Ds) (n : Nat) (h : PD17 w g gl cl vw d) (hn : n < d.lies.length) :
    Calls Try.prog 35 #[.pointer (some ⟨g, 0, none⟩), .int .i64 (n : Int)] w fun e w' => e = .returned (.agg (uv (Dk.rw' d.waits n (d.lies.getD n []) d.waits.length)).toArray) ∧ KO w w' := by
  obtain ⟨_, c1, _⟩ := h.cells
  obtain ⟨aw, cw, hvw, hle, hcw, hrow⟩ := h.waitO
  obtain ⟨Z, hZ, hz⟩ := zero_sector
  obtain ⟨Z2, hZ2, hz2⟩ := zero_write
  have HZ := hide hZ
  have HZ2 := hide hZ2
  have H := hide h
  have HN := hide hn
  have HROW := hide hrow
  have HXL := hide (waits_len h.wf)
  have HLE := hide hle
  have HCW := hide hcw
  have hgs := (Array.getElem?_eq_some_iff.1 h.disk).1
  obtain ⟨q, hq⟩ : ∃ q, Dk.rw' d.waits n (d.lies.getD n []) d.waits.length = q := ⟨_, rfl⟩
  have HQ := hide hq
  rw [hq]
  have c1' : ((w.alloc (.cells #[.int .i64 (n : Int)] 3)).alloc (.cells Z 75)).cell? ⟨g, 1, none⟩ = some (.slice aw d.waits.length cw) := by
    rw [World.cell?_alloc_past _ _ _ (by simp; omega), World.cell?_alloc_past _ _ _ (by exact hgs), c1, hvw]
  clear h hn hrow hle hcw hZ hZ2 hq hgs
  refine (callsIn_wide (n := 3)).1 ?_
  refine callsIn_of_wp_marks Try.func35 rfl trivial ?_
  simp only [Try.ntmps35, List.size_toArray, List.length_cons, List.length_nil, Nat.reduceAdd, Nat.reduceSub, Array.replicate_succ, Array.replicate_zero, List.push_toArray, List.append_toArray, List.nil_append, List.cons_append]
  gi_wp2_with fail
  refine ⟨trivial, ?_⟩
  refine (callsIn_wide.2 (pback_any aw d.waits.length cw _)).mono ?_
  rintro e w1 ⟨rfl, hw1⟩
  have hs1 : ((w.alloc (.cells #[.int .i64 (n : Int)] 3)).alloc (.cells Z 75)).heap.size = w.heap.size + 2 := by simp
  rw [hs1]
  have h0 : SE w g gl cl vw d n [] w1 := by
    subst hw1
    refine ⟨?_, ⟨Z.toList, by rw [Array.length_toList]; exact HZ.out, ?_⟩, ?_, KO.alloc (KO.alloc (KO.alloc (KO.refl w) _) _) _, fun j h1 h2 => by simp at h1; omega⟩
    · rw [World.cell?_alloc_past _ _ _ (by simp; omega), World.cell?_alloc_past _ _ _ (by simp), World.cell?_alloc_mark]; rfl
    · rw [Below.heap_alloc _ _ _ (by simp)]
      have := World.alloc_heap_new (w.alloc (.cells #[.int .i64 (n : Int)] 3)) (.cells Z 75)
      rw [World.size_alloc] at this
      rw [Array.toArray_toList]
      exact this
    · rw [← hs1, World.cell?_alloc_mark, hvw]; rfl
  have hws : w1.heap.size = w.heap.size + 3 := by rw [hw1]; simp
  have HWS := hide hws
  have H0 := hide h0
  have HVW := hide hvw
  clear hw1 hs1 h0 c1 c1' hws hvw
  gi_wp2_with fail
  refine wpIn_rangeC (gf := 45) (lb := #[.pointer (some ⟨w.heap.size + 2, 0, none⟩)]) rfl (enters_of Try.func45 (by kernel_rfl) rfl) (pback1_any true Far (fun _ _ _ h => h.size) (w.heap.size + 2) aw cw d.waits HXL.out HLE.out HCW.out) (fun _ => rfl)
    (fun pre X => SE w g gl cl vw d n pre X) (fun c pre X => c = .ret ∧ KO w X ∧ X.heap[w.heap.size + 1]? = some (.cells (uv q).toArray 75 (0, 0))) (fun pre X hX => ⟨by rw [← HVW.out]; exact hX.box, HROW.out X (H.out.ko hX.old)⟩)
    (fun pre X Y hX hc => hX.ch hc (by have := HWS.out; omega)) (fun c pre X Y hX hc => ⟨hX.1, hX.2.1.trans (hc.below.mono (by have := HWS.out; omega)), hc.cells rfl _ _ hX.2.2 rfl⟩) H0.out
    ?ac
    (fun x X => X.alloc (.cells (x6 x.2).toArray 82)) (fun x X => (Below.refl _ _).alloc (Nat.le_refl _) _) ?assign ?body ?done ?stop
  case assign =>
    intro m l x W K hK
    unfold encb
    gi_wp2_with (refine wpListIn_store_new rfl rfl 82 _ _ rfl rfl Z2 (x6 x.2).toArray rfl (x6_info x.2) (x6_zero HZ2.out x.2) (all_oneCell_toArray (x6_one x.2)) ?_)
    exact hK
  case body =>
    rintro m y pre x X0 X hM hpre hXs hnew hsz
    have hpa := prefix_at hpre
    have hpl : pre.length < d.waits.length := by
      have := (List.getElem?_eq_some_iff.1 hpa.1).1
      rw [dn_len] at this
      exact this
    have hx := hpa.1
    rw [dn_at _ hpl] at hx
    simp only [Option.some.injEq] at hx
    have hlen : (xe x.2).length = 65 := by rw [← hx]; exact HXL.out _ (Dk.wait_at (by omega))
    have hblk : X.heap[X0.heap.size]? = some (.cells (xe x.2).toArray 82 (0, 0)) := by
      rw [hnew _ (Nat.le_refl _)]
      have := World.alloc_heap_new X0 (.cells (x6 x.2).toArray 82)
      rw [x6_eq hlen] at this ⊢
      exact this
    have c0 : X.cell? ⟨X0.heap.size, 0, none⟩ = some (.int .i64 (x.2.1 : Int)) := blk_range hblk 0 (xe x.2) (fun j v hj => by rw [Nat.zero_add]; exact hj) 0 _ rfl
    have hr := hide (blk_range hblk 1 (uv x.2.2) (fun j v hj => by rw [Nat.add_comm]; exact hj))
    have cn := hM.num
    have HM := hide hM
    obtain ⟨Zr, hZr, hres⟩ := hM.res
    have HT := hide (blk_there hres 0 64 (by omega))
    have HUL : Hid ((Try.prog.info? 75).map (·.size) = some (uv x.2.2).length) := hide (by rw [uv_len]; rw [xe_len] at hlen; rw [show x.2.2.length = 64 from by omega]; exact sector_size)
    have HUA : Hid ((Try.prog.info? 75).map (·.size) = some (uv x.2.2).toArray.size) := hide (by rw [List.size_toArray]; exact HUL.out)
    have e64 : (uv x.2.2).toArray.size = 64 := by
      rw [List.size_toArray, uv_len]
      rw [xe_len] at hlen
      omega
    have HUT : Hid (X.there (w.heap.size + 1) 0 (uv x.2.2).toArray.size) := hide (e64 ▸ HT.out)
    have HUO := hide (all_oneCell_toArray (uv_one x.2.2))
    have HNX := hide (blk_sets (uv x.2.2) 0 hres)
    have HL64 : Hid (x.2.2.length = 64) := hide (by rw [xe_len] at hlen; omega)
    have HX := hide hx
    have HPL := hide hpl
    have hxi := congrArg Prod.fst hx
    have hxw := congrArg Prod.snd hx
    dsimp only at hxi hxw
    have HXW := hide hxw
    have HZR := hide hZr
    generalize hQ : rPostC _ _ _ _ X = Q
    have HQQ := hide hQ
    clear e64 hQ hM hpre hXs hnew hsz hpa hpl hx hlen hblk hres hxi hxw hZr
    by_cases he : x.2.1 = n
    · have hb : ((x.2.1 : Int) == (n : Int)) = true := by rw [he]; simp
      have HE := hide he
      clear he
      gi_wp2_with (first
        | (refine wpListIn_load_mid rfl 75 _ rfl X0.heap.size 1 rfl (uv x.2.2) _ hr.out Try.underlying75 rfl HUL.out ?_)
        | (refine wpListIn_store_mid rfl rfl 75 _ _ rfl (w.heap.size + 1) 0 (uv x.2.2).toArray rfl rfl HUT.out HUA.out HUO.out ?_))
      rw [← HQQ.out]
      refine ⟨far_cells _ _ _, rfl, KO.cells HM.out.old _ (by omega), ?_⟩
      have h1 := HNX.out
      rw [sets_all (by rw [uv_len, HL64.out, HZR.out])] at h1
      have h2 : q = x.2.2 := by
        rw [← HQ.out, rw_skip (i := d.waits.length - 1 - pre.length + 1) _ (by have := HPL.out; omega) (fun j a b => HM.out.not j (by have := HPL.out; omega) b), Dk.rw', HXW.out, if_pos HE.out]
      rw [h2]
      exact h1
    · have hb : ((x.2.1 : Int) == (n : Int)) = false := beq_eq_false_iff_ne.2 (by omega)
      have HE := hide he
      clear he
      gi_wp2_with fail
      rw [← HQQ.out]
      have hM := HM.out
      refine ⟨Far.refl _ _, hM.num, hM.res, hM.box, hM.old, fun j a b => ?_⟩
      rw [List.length_append, List.length_singleton] at a
      by_cases hj : j = d.waits.length - 1 - pre.length
      · rw [hj, HXW.out]; exact HE.out
      · exact hM.not j (by omega) b
  case done =>
    rintro D W hD hWs hM hK
    have hO := H.out.ko hM.old
    obtain ⟨c0, _⟩ := hO.cells
    have cn := hM.num
    obtain ⟨Zr, hZr, hres⟩ := hM.res
    have hin : (n : Int) < (d.lies.length : Int) := by have := HN.out; omega
    have hs := H.out.lt
    have hgl : gl < w.heap.size := hs gl (.inr (.inl rfl))
    have hgg : g < w.heap.size := hs g (.inl rfl)
    have hsl := lies_len H.out.wf _ (Dk.lie_at HN.out)
    have hlie := hO.lie HN.out
    have hq : q = d.lies.getD n [] := by
      rw [← HQ.out, rw_skip (i := 0) _ (Nat.zero_le _) (fun j a b => hM.not j (by rw [dn_len]; omega) b), Dk.rw']
    rw [← hq] at hlie hsl
    obtain ⟨cs, hcs⟩ : ∃ cs, uv q = cs := ⟨_, rfl⟩
    have hcone : ∀ v ∈ cs, v.oneCell' = true := by rw [← hcs]; exact uv_one q
    rw [hcs] at hlie hsl
    have hsz : (Try.prog.info? 75).map (·.size) = some cs.length := by rw [hsl]; exact sector_size
    have hS0 : Mod (fun k => k = w.heap.size + 1) W W.drew := Mod.of_ko (below_drewN W 1)
    have hth : W.there (w.heap.size + 1) 0 64 := blk_there hres 0 64 (by omega)
    have hall : ∀ w', Mod (fun k => k = w.heap.size + 1) W w' → w'.there (w.heap.size + 1) 0 64 → (Mod (fun k => k = w.heap.size + 1) W w' ∧ w'.cell? ⟨g, 0, none⟩ = some (.slice (some ⟨gl, 0, none⟩) d.lies.length cl) ∧ w'.cell? ⟨w.heap.size, 0, none⟩ = some (.int .i64 (n : Int)) ∧ w'.rangeAt gl (n * 64) cs ∧ w'.there (w.heap.size + 1) 0 64) := fun w' hm ht =>
      ⟨hm, hm.cell (by show ¬ g = _; omega) c0, hm.cell (by show ¬ w.heap.size = _; omega) cn, range_mod hm (by show ¬ gl = _; omega) hlie, ht⟩
    have hS1 : Mod (fun k => k = w.heap.size + 1) W (W.drew.setCells (w.heap.size + 1) 0 cs) := hS0.cells _ _ (.inl rfl)
    have hA0 := hall _ hS0 (by rw [World.there_drew]; exact hth)
    have hA1 := hall _ hS1 (World.there_setCells (by rw [World.there_drew]; exact hth) _ _ _)
    have hu75 := Try.underlying75
    have HK1 : Hid (KO w (W.drew.setCells (w.heap.size + 1) 0 cs)) := hide (KO.cells (KO.drew hM.old) _ (by omega))
    have HB1 : Hid ((W.drew.setCells (w.heap.size + 1) 0 cs).heap[w.heap.size + 1]? = some (.cells cs.toArray 75 (0, 0))) := hide (by
      have := blk_sets cs 0 (w := W.drew) hres
      rw [sets_all (by rw [hsl, hZr])] at this
      exact this)
    have HD1 : Hid ((W.drew.setCells (w.heap.size + 1) 0 cs).heap[D]? = some (.deferred (some []))) := hide (by
      have hm : Mod (fun k => k = w.heap.size + 1) W (W.drew.setCells (w.heap.size + 1) 0 cs) := hS1
      rw [hm.block D (Array.getElem?_eq_some_iff.1 hK).1 (by have := HWS.out; omega)]
      exact hK)
    have HSZ := hide hsz
    have HCS := hide hcs
    have HDD := hide hD
    clear hM hO c0 cn hres hlie hth hcs hK hD hWs hs hall hS0 hS1
    gi_wp2_with fail
    refine wpIn_wide.2 ?_
    refine wp_region_noPanic ?_
    go_region_held (fun w' => Mod (fun k => k = w.heap.size + 1) W w' ∧ w'.cell? ⟨g, 0, none⟩ = some (.slice (some ⟨gl, 0, none⟩) d.lies.length cl) ∧ w'.cell? ⟨w.heap.size, 0, none⟩ = some (.int .i64 (n : Int)) ∧ w'.rangeAt gl (n * 64) cs ∧ w'.there (w.heap.size + 1) 0 64) (first | exact hA0 | exact hA1)
      (first | fail)
    refine NoPanic.normal ?_
    dsimp only [List.getElem_toArray, List.getElem_cons_succ, List.getElem_cons_zero]
    clear hA0 hA1
    gi_wp2_with fail
    refine ⟨by simp, .inl ⟨_, _, rfl, run_takeDeferred HD1.out, ?_⟩⟩
    have hDn : w.heap.size + 1 ≠ D := by have := HDD.out; have := HWS.out; omega
    refine ⟨_, results_cell_row rfl _ _ (w.heap.size + 1) 75 cs.toArray (0, 0) _ rfl ((World.putObj_heap_other hDn).trans HB1.out) Try.underlying75 rfl (by rw [List.size_toArray]; exact HSZ.out), ?_, ?_⟩
    · rw [HCS.out]
    · exact HK1.out.trans (below_put (by have := HDD.out; have := HWS.out; omega) _)
  case stop =>
    rintro D c pre W hD hWs hpre ⟨rfl, hko, hb⟩ hK
    have HKO := hide hko
    have HB := hide hb
    have HK := hide hK
    have HDD := hide hD
    clear hko hb hK hD hWs hpre
    gi_wp2_with fail
    refine ⟨by simp, .inl ⟨_, _, rfl, run_takeDeferred HK.out, ?_⟩⟩
    have hDn : w.heap.size + 1 ≠ D := by have := HDD.out; have := HWS.out; omega
    have hql : (uv q).length = 64 := by rw [uv_len, ← HQ.out]; exact (Dk.rw_sec (H.out.wf.lies _ (Dk.lie_at HN.out)) H.out.wf.waits _ (Nat.le_refl _)).1
    refine ⟨_, results_cell_row rfl _ _ (w.heap.size + 1) 75 (uv q).toArray (0, 0) _ rfl ((World.putObj_heap_other hDn).trans HB.out) Try.underlying75 rfl (by rw [List.size_toArray, hql]; exact sector_size), rfl, ?_⟩
    exact HKO.out.trans (below_put (by have := HDD.out; have := HWS.out; omega) _)
theorem pread_any (w : World) (g gl cl : Nat) (vw : Value) (d : Dk.Ds) (n : Int) (h : PD17 w g gl cl vw d) :
    Calls Try.prog 15 #[.pointer (some ⟨g, 0, none⟩), .int .i64 n] w fun e w' => ∃ a c, e = .returned (.tuple #[.slice a (Dk.RD d n).1.length c, .int .i64 (Dk.RD d n).2]) ∧ Row .u8 w' a (Dk.RD d n).1.length c (Dk.RD d n).1 ∧ KO w w' ∧ ((Dk.RD d n).2 = 0 → c = 64 ∧ ∃ b, a = some ⟨b, 0, none⟩ ∧ w.heap.size ≤ b ∧ w'.heap[b]? = some (.cells (uv (Dk.RD d n).1).toArray 75 (0, 0))) := by
  have HI := hide (fun r hr => phas_any w g gl cl vw d n h r hr)
  have HD := hide (fun r hr => pdown_any w g gl cl vw d h r hr)
  by_cases hn : Dk.has d n
  · have HI1 := hide (HI.out 0 (by rw [if_pos hn]))
    by_cases h0 : d.left = 0
    · have e : Dk.RD d n = ([], 170) := by unfold Dk.RD; rw [if_neg (by simpa using hn), if_pos h0]
      have HD1 := hide (HD.out true (by rw [h0]; rfl))
      rw [e]
      clear h HI HD hn h0 e
      go_enter Try.func15, Try.ntmps15
      go_wp2_with fail
      refine HI1.out.mono ?_
      rintro e w1 ⟨rfl, rfl⟩
      go_wp2_with fail
      refine HD1.out.mono ?_
      rintro e w1 ⟨rfl, rfl⟩
      go_wp2
      go_ret2
      exact ⟨none, 0, rfl, row_nil _ _, KO.refl _, fun q => by cases q⟩
    · have e : Dk.RD d n = (Dk.rw' d.waits n.toNat (d.lies.getD n.toNat []) d.waits.length, 0) := by unfold Dk.RD; rw [if_neg (by simpa using hn), if_neg h0]
      have HD1 := hide (HD.out false (by rw [decide_eq_false h0]))
      obtain ⟨k, rfl⟩ : ∃ k : Nat, n = (k : Int) := ⟨n.toNat, by unfold Dk.has at hn; omega⟩
      have hk : k < d.lies.length := by unfold Dk.has at hn; omega
      have HS := hide (pseen_any w g gl cl vw d k h hk)
      rw [e, Int.toNat_natCast]
      have hsec := Dk.rw_sec (n := k) (h.wf.lies _ (Dk.lie_at hk)) h.wf.waits _ (Nat.le_refl _)
      obtain ⟨q, hq⟩ : ∃ q, Dk.rw' d.waits k (d.lies.getD k []) d.waits.length = q := ⟨_, rfl⟩
      rw [hq] at HS hsec
      rw [hq]
      obtain ⟨Z, hZ, hz⟩ := zero_sector
      have HZ := hide hZ
      have hql : (uv q).length = 64 := by rw [uv_len]; exact hsec.1
      have HQL := hide hql
      have HSI : Hid ((Try.prog.info? 75).map (·.size) = some (uv q).toArray.size) := hide (by rw [List.size_toArray, hql]; exact sector_size)
      have HSZ : Hid (Z.size = (uv q).toArray.size) := hide (by rw [hZ, List.size_toArray, hql])
      have HSO := hide (all_oneCell_toArray (uv_one q))
      have HSEC := hide hsec
      clear h HI HD hn h0 e hk hsec hq hZ hql
      go_enter Try.func15, Try.ntmps15
      go_wp2_with fail
      refine HI1.out.mono ?_
      rintro e w1 ⟨rfl, rfl⟩
      go_wp2_with fail
      refine HD1.out.mono ?_
      rintro e w1 ⟨rfl, rfl⟩
      go_wp2_with fail
      refine HS.out.mono ?_
      rintro e w1 ⟨rfl, hk1⟩
      have HK1 := hide hk1
      clear hk1
      go_wp2_with (refine wpList_store_new17 rfl rfl 75 _ _ rfl rfl Z (uv q).toArray rfl HSI.out HSZ.out HSO.out ?_)
      go_ret2
      have hb := World.alloc_heap_new w1 (.cells (uv q).toArray 75)
      have hr := blk_range hb 0 (uv q) (fun j v hj => by rw [Nat.zero_add]; exact hj)
      refine ⟨some ⟨w1.heap.size, 0, none⟩, 64, by rw [HSEC.out.1]; rfl, ⟨rfl, by rw [HSEC.out.1]; exact Nat.le_refl _, by unfold maxLen; omega, fun _ => ⟨w1.heap.size, 0, rfl, by simp, fun i hi => ?_⟩, fun e => by cases e⟩, KO.alloc HK1.out _, fun _ => ⟨rfl, _, rfl, HK1.out.size, hb⟩⟩
      have := hr i (.int .u8 (q.getD i 0)) (by unfold uv; rw [List.getElem?_map, List.getElem?_eq_getElem hi]; simp [List.getD, List.getElem?_eq_getElem hi])
      exact this
  · have HI1 := hide (HI.out 4 (by rw [if_neg hn]))
    have e : Dk.RD d n = ([], 4) := by unfold Dk.RD; rw [if_pos hn]
    rw [e]
    clear h HI HD hn e
    go_enter Try.func15, Try.ntmps15
    go_wp2_with fail
    refine HI1.out.mono ?_
    rintro e w1 ⟨rfl, rfl⟩
    go_wp2
    go_ret2
    exact ⟨none, 0, rfl, row_nil _ _, KO.refl _, fun q => by cases q⟩
end Go.Proofs.Ythhfgcpflclflaa
