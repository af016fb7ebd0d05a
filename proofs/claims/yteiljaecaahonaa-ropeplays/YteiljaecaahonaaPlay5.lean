/- play: a new rope. -/
import Derived.Test.YteiljaecaahonaaPlay
namespace Go.Proofs.Yteiljaecaahonaa
open Go.RowKit
set_option linter.unusedVariables false
set_option maxHeartbeats 2000000
set_option maxRecDepth 100000
/-- A store into a list of numbers turns no tree. -/
theorem Lies.setRow {Y : World} {t : Tr} {g : Nat} {x : Int} (h : Lies Y t) (hg : Y.cell? ⟨g, 0, none⟩ = some (.int .i32 x)) (i : Nat) (v : Value) : Lies (Y.setCell ⟨g, i, none⟩ v) t := by
  induction t with
  | nil => trivial
  | node d l x r ihl ihr =>
    obtain ⟨c0, c1, c2, c3, c4, c5, hl, hr⟩ := h
    have hne : d ≠ g := fun e => by subst e; rw [hg] at c0; cases c0
    have k : ∀ q, (Y.setCell ⟨g, i, none⟩ v).cell? ⟨d, q, none⟩ = Y.cell? ⟨d, q, none⟩ := fun q => World.cell?_setCell_other _ _ _ _ (fun e => hne (by injection e with e1; exact e1.symm))
    exact ⟨(k _).trans c0, (k _).trans c1, (k _).trans c2, (k _).trans c3, (k _).trans c4, (k _).trans c5, ihl hl, ihr hr⟩
theorem IsRope.setRow {Y : World} {b : Nat} {t : Tr} {g : Nat} {x : Int} (h : IsRope Y b t) (hg : Y.cell? ⟨g, 0, none⟩ = some (.int .i32 x)) (i : Nat) (v : Value) : IsRope (Y.setCell ⟨g, i, none⟩ v) b t := by
  have hne : b ≠ g := fun e => by subst e; have := h.made; rw [hg] at this; cases this
  have k : ∀ q, (Y.setCell ⟨g, i, none⟩ v).cell? ⟨b, q, none⟩ = Y.cell? ⟨b, q, none⟩ := fun q => World.cell?_setCell_other _ _ _ _ (fun e => hne (by injection e with e1; exact e1.symm))
  exact ⟨(k _).trans h.made, (k _).trans h.top, h.lies.setRow hg i v, h.bal⟩
theorem play_5 (w : World) (rb lb rc lc j : Nat) (hrc : j + 1 ≤ rc) (hlc : j + 1 ≤ lc) (hj : j ≤ 64) (e : Ent) (he : e.ok w) (hen : e.n ≤ 1500) (M : Nat) (hM : 200 ≤ M)
    (cr : w.cell? ⟨rb, j, none⟩ = some (.pointer (some ⟨e.b, 0, none⟩))) (cl : w.cell? ⟨lb, j, none⟩ = some (.slice e.a e.n e.c))
    (kd fr tu : Int) (ta : Option Addr) (tn tc : Nat) (zs : List Int) (hrow : Row .i32 w ta tn tc zs) (hwf : ∀ x ∈ zs, (Lit.int .i32 x).wf = true) (htn : tn ≤ 200) (g0 : ¬ kd = 0) (g1 : ¬ kd = 1) (g2 : ¬ kd = 2) (g3 : ¬ kd = 3) (g4 : ¬ kd = 4) :
    Calls Try.prog 12 #[.slice (some ⟨rb, 0, none⟩) (j + 1) rc, .slice (some ⟨lb, 0, none⟩) (j + 1) lc, .agg #[.int .i64 kd, .int .i64 fr, .int .i64 tu, .slice ta tn tc]] w (Played M w) := by
  obtain ⟨b, t, a, n, c, l⟩ := e
  have hsz := he.size
  obtain ⟨hr, hrowl, hwfl, hl⟩ := he
  dsimp only at hr hrowl hwfl hl hsz hen cr cl
  obtain ⟨V, hV⟩ : ∃ V, w.alloc (.cells #[.int .i64 kd, .int .i64 fr, .int .i64 tu, .slice ta tn tc] 30) = V := ⟨_, rfl⟩
  have hkV : KO w V := by rw [← hV]; exact KO.alloc (KO.refl _) _
  have hVs : w.heap.size < V.heap.size := by rw [← hV]; simp
  have cV : ∀ j, V.cell? ⟨w.heap.size, j, none⟩ = (#[.int .i64 kd, .int .i64 fr, .int .i64 tu, .slice ta tn tc] : Array Value)[j]? := fun j => by rw [← hV, World.cell?_alloc_mark]
  have crV : V.cell? ⟨rb, j, none⟩ = some (.pointer (some ⟨b, 0, none⟩)) := (Below.cell hkV (by simpa using World.block_lt_of_cell? w _ cr)).trans cr
  have clV : V.cell? ⟨lb, j, none⟩ = some (.slice a n c) := (Below.cell hkV (by simpa using World.block_lt_of_cell? w _ cl)).trans cl
  obtain ⟨i32, hi32, hz0, hz1, hz2⟩ := own32 w
  have HI : Hid (Try.prog.info? 21 = some i32) := hi32
  have HZ0 := hide hz0
  have HZ1 := hide hz1
  have HZ2 := hide hz2
  have HR := hide hr
  have HROWL := hide hrowl
  have HWFL := hide hwfl
  have HLI := hide hl
  have HSZ := hide hsz
  have HROW := hide hrow
  have HWF := hide hwf
  have HKV := hide hkV
  have HCV := hide cV
  have HVS := hide hVs
  have ej : (j : Int) < (j : Int) + 1 := by omega
  clear hr hrowl hwfl hl hsz hrow hwf hkV cV hVs cr cl hi32 hz0 hz1 hz2
  go_enter Try.func12, Try.ntmps12
  go_wp2_with fail
  go_quiet (fail)
  rename_i nq
  obtain ⟨V2, hV2⟩ : ∃ V2, V.drewN nq = V2 := ⟨_, rfl⟩
  have hkV2 : KO V V2 := by rw [← hV2]; exact keepN _ _
  rw [hV2]
  have hV2s : w.heap.size < V2.heap.size := Nat.lt_of_lt_of_le HVS.out (Below.size hkV2)
  have d3 : V2.cell? ⟨w.heap.size, 3, none⟩ = some (.slice ta tn tc) := (Below.cell hkV2 (by exact HVS.out)).trans (HCV.out 3)
  have d3a : ∀ o : Obj, (V2.alloc o).cell? ⟨w.heap.size, 3, none⟩ = some (.slice ta tn tc) := fun o => (World.cell?_alloc_past _ _ _ (by exact hV2s)).trans d3
  have HK2 := hide (KO.on HKV.out hkV2)
  have HKA := hide (show KO V2 (V2.alloc (.cells #[] 21)) from KO.alloc (KO.refl _) _)
  have HD := hide (fun w' (hk : KO V2 w') (q : Nat) => (Below.cell (p := ⟨w.heap.size, q, none⟩) hk (by exact hV2s)).trans ((Below.cell (p := ⟨w.heap.size, q, none⟩) hkV2 (by exact HVS.out)).trans (HCV.out q)))
  clear hV2 hkV2 hV crV clV
  go_wp2_with (at_builtin; refine wpList_append_row _ rfl (.tmp 30) (.tmp 32) 22 rfl V2.heap.size 21 i32 (.int .i32 0) 4 Try.underlying22 HI.out HZ0.out HZ1.out HZ2.out rfl _ 0 [] rfl (owns_empty V2 21 V2.heap.size rfl) .i32 ta tn tc zs rfl ((HROW.out.below HK2.out).below HKA.out) (by omega) (by omega) (by simp) ?_; intro v3 w3 ho3 hb3; have hk3 : KO V2 w3 := Below.trans HKA.out hb3; have d0 : w3.cell? ⟨w.heap.size, 0, none⟩ = some (.int .i64 kd) := HD.out w3 hk3 0; have d1 : w3.cell? ⟨w.heap.size, 1, none⟩ = some (.int .i64 fr) := HD.out w3 hk3 1)
  rw [List.nil_append, Nat.zero_add] at ho3
  have HO3 := hide ho3
  have HK3 := hide hk3
  have HKW3 := hide (KO.on HK2.out hk3)
  clear d3 d3a hb3 hk3 ho3
  obtain ⟨a3, c3, rfl, hr3⟩ := row_of_owns HO3.out
  have HR3 := hide hr3
  clear hr3
  obtain ⟨v0, hv0⟩ : ∃ v0 : Int, Calls Try.prog 37 #[.slice a n c, .int .i64 fr, .int .i64 fr] w3 fun r w' => r = .returned (.int .i64 v0) ∧ w3 = w' := by
    by_cases hh : 0 ≤ fr ∧ fr ≤ fr ∧ fr ≤ (n : Int)
    · exact ⟨0, wrong_ok a n c fr fr w3 hh.1 hh.2.1 hh.2.2⟩
    · exact ⟨4, wrong_no a n c fr fr w3 hh⟩
  have HV0 := hide hv0
  clear hv0
  refine HV0.out.mono ?_
  rintro r w' ⟨rfl, rfl⟩
  have HNW := hide (new_any a3 tn c3 zs w3 HR3.out HWF.out (by omega))
  go_wp2_with fail
  refine HNW.out.mono ?_
  rintro r w4 ⟨b4, t4, rfl, hr4, hl4, hb4⟩
  have HO4 := hide (owns_below HO3.out hb4)
  have HK4 := hide (KO.on HK3.out hb4)
  have HR4 := hide hr4
  have HL4 := hide hl4
  clear hr4 hl4 hb4 d0 d1
  go_wp2_with fail
  go_loopw [46] (fun v wr => ∃ (i : Nat) (ys : List Int), v = .int .i64 (i : Int) ∧ i ≤ tn ∧ Hid (wr.ownsRow V2.heap.size 21 1 (.slice a3 tn c3) tn (ys.map (Value.int .i32))) ∧ Hid (IsRope wr b4 t4) ∧ Hid (KO V2 wr)) (fun v _ => tn - (intOf v).toNat)
  case atStart => exact ⟨0, zs, rfl, Nat.zero_le _, HO4, HR4, HK4⟩
  case round =>
    obtain ⟨i, ys, rfl, hi, hown, hrp, hkr⟩ := hrel
    by_cases hlt : i < tn
    · rcases hown.out.2 with ⟨_, h0⟩ | ⟨g, cap, cur, heq, hgb, hgc, hgn, hgm, hgs, hgt⟩
      · omega
      simp only [Value.slice.injEq] at heq
      obtain ⟨rfl, _, rfl⟩ := heq
      have ci := owns_cell hown.out i hlt
      have c0 := owns_cell hown.out 0 (by omega)
      have fi : wr.frozen? ⟨g, i, none⟩ = false := by simp [World.frozen?, hgc]
      obtain ⟨y, hy⟩ : ∃ y, ys.getD i 0 = y := ⟨_, rfl⟩
      rw [hy] at ci
      have hin : (i : Int) < (tn : Int) := by omega
      have HC0 := hide c0
      have HGB := hide hgb
      clear hgc hgn hgm hgs hgt hy c0 hgb
      obtain ⟨z, hz⟩ : ∃ z, IntKind.i32.wrap (y + 1) = z := ⟨_, rfl⟩
      go_wp2_with fail
      have ho2 := owns_set hown.out i z
      refine ⟨⟨i + 1, ys.set i z, by go_num, by omega, hide ho2, hide (hrp.out.setRow HC0.out i _), hide (Below.setCell hkr.out (by exact HGB.out) _)⟩, ?_⟩
      simp [intOf]; omega
    · obtain rfl : i = tn := by omega
      have hne : ¬ ((i : Int) < (i : Int)) := by omega
      have f3 : wr.cell? ⟨w.heap.size, 3, none⟩ = some (.slice ta i tc) := HD.out wr hkr.out 3
      have f3a : ∀ o : Obj, (wr.alloc o).cell? ⟨w.heap.size, 3, none⟩ = some (.slice ta i tc) := fun o => (World.cell?_alloc_past _ _ _ (by have := Below.size hkr.out; show w.heap.size < _; omega)).trans f3
      have HKWR := hide (KO.on HK2.out hkr.out)
      have HKB := hide (show KO wr (wr.alloc (.cells #[] 21)) from KO.alloc (KO.refl _) _)
      clear hown
      go_wp2_with (at_builtin; refine wpList_append_row _ rfl (.tmp 57) (.tmp 59) 22 rfl wr.heap.size 21 i32 (.int .i32 0) 4 Try.underlying22 HI.out HZ0.out HZ1.out HZ2.out rfl _ 0 [] rfl (owns_empty wr 21 wr.heap.size rfl) .i32 ta i tc zs rfl ((HROW.out.below HKWR.out).below HKB.out) (by omega) (by omega) (by simp) ?_; intro v5 w5 ho5 hb5)
      rw [List.nil_append, Nat.zero_add] at ho5
      obtain ⟨a5, c5, rfl, hr5⟩ := row_of_owns ho5
      have hk5 : KO wr w5 := Below.trans HKB.out hb5
      have HR5 := hide hr5
      have HK5 := hide hk5
      clear ho5 hb5 hr5 hk5 f3 f3a
      go_ret3
      exact ⟨KO.on HKWR.out HK5.out, .inr ⟨⟨b4, t4, a5, i, c5, zs⟩, rfl, ⟨hrp.out.below HK5.out, HR5.out, HWF.out, HL4.out⟩, by show i ≤ 1500 + M; omega⟩⟩
end Go.Proofs.Yteiljaecaahonaa
