/- play: two ropes joined. -/
import Derived.Test.YteiljaecaahonaaPlay
namespace Go.Proofs.Yteiljaecaahonaa
open Go.RowKit
set_option linter.unusedVariables false
set_option maxHeartbeats 2000000
set_option maxRecDepth 100000
theorem play_4 (w : World) (rb lb rc lc j : Nat) (hrc : j + 1 ≤ rc) (hlc : j + 1 ≤ lc) (hj : j ≤ 64) (e : Ent) (he : e.ok w) (hen : e.n ≤ 1500) (M : Nat) (hM : 200 ≤ M)
    (cr : w.cell? ⟨rb, j, none⟩ = some (.pointer (some ⟨e.b, 0, none⟩))) (cl : w.cell? ⟨lb, j, none⟩ = some (.slice e.a e.n e.c))
    (fr tu : Int) (ta : Option Addr) (tn tc : Nat) (zs : List Int) (hrow : Row .i32 w ta tn tc zs) (hwf : ∀ x ∈ zs, (Lit.int .i32 x).wf = true) (htn : tn ≤ 200) (hMM : M ≤ 100000) (hfr : (Lit.int .i64 fr).wf = true) (es : Nat → Ent) (hes : ∀ q, q ≤ j → (es q).ok w ∧ (es q).n ≤ M ∧ w.cell? ⟨rb, q, none⟩ = some (.pointer (some ⟨(es q).b, 0, none⟩)) ∧ w.cell? ⟨lb, q, none⟩ = some (.slice (es q).a (es q).n (es q).c)) :
    Calls Try.prog 12 #[.slice (some ⟨rb, 0, none⟩) (j + 1) rc, .slice (some ⟨lb, 0, none⟩) (j + 1) lc, .agg #[.int .i64 4, .int .i64 fr, .int .i64 tu, .slice ta tn tc]] w (Played M w) := by
  obtain ⟨b, t, a, n, c, l⟩ := e
  have hsz := he.size
  obtain ⟨hr, hrowl, hwfl, hl⟩ := he
  dsimp only at hr hrowl hwfl hl hsz hen cr cl
  obtain ⟨V, hV⟩ : ∃ V, w.alloc (.cells #[.int .i64 4, .int .i64 fr, .int .i64 tu, .slice ta tn tc] 30) = V := ⟨_, rfl⟩
  have hkV : KO w V := by rw [← hV]; exact KO.alloc (KO.refl _) _
  have hVs : w.heap.size < V.heap.size := by rw [← hV]; simp
  have cV : ∀ j, V.cell? ⟨w.heap.size, j, none⟩ = (#[.int .i64 4, .int .i64 fr, .int .i64 tu, .slice ta tn tc] : Array Value)[j]? := fun j => by rw [← hV, World.cell?_alloc_mark]
  have crV : V.cell? ⟨rb, j, none⟩ = some (.pointer (some ⟨b, 0, none⟩)) := (Below.cell hkV (by simpa using World.block_lt_of_cell? w _ cr)).trans cr
  have clV : V.cell? ⟨lb, j, none⟩ = some (.slice a n c) := (Below.cell hkV (by simpa using World.block_lt_of_cell? w _ cl)).trans cl
  obtain ⟨i32, hi32, hz0, hz1, hz2⟩ := own32 w
  have HI : Hid (Try.prog.info? 21 = some i32) := hi32
  have HZ0 := hide hz0
  have HZ1 := hide hz1
  have HZ2 := hide hz2
  have HR := hide hr
  have HROWL := hide hrowl
  have HWFL := hide hwfl
  have HLI := hide hl
  have HSZ := hide hsz
  have HROW := hide hrow
  have HWF := hide hwf
  have HKV := hide hkV
  have HCV := hide cV
  have HVS := hide hVs
  have ej : (j : Int) < (j : Int) + 1 := by omega
  clear hr hrowl hwfl hl hsz hrow hwf hkV cV hVs cr cl hi32 hz0 hz1 hz2
  go_enter Try.func12, Try.ntmps12
  go_wp2_with fail
  go_quiet (fail)
  rename_i nq
  obtain ⟨V2, hV2⟩ : ∃ V2, V.drewN nq = V2 := ⟨_, rfl⟩
  have hkV2 : KO V V2 := by rw [← hV2]; exact keepN _ _
  rw [hV2]
  have hV2s : w.heap.size < V2.heap.size := Nat.lt_of_lt_of_le HVS.out (Below.size hkV2)
  have d3 : V2.cell? ⟨w.heap.size, 3, none⟩ = some (.slice ta tn tc) := (Below.cell hkV2 (by exact HVS.out)).trans (HCV.out 3)
  have d3a : ∀ o : Obj, (V2.alloc o).cell? ⟨w.heap.size, 3, none⟩ = some (.slice ta tn tc) := fun o => (World.cell?_alloc_past _ _ _ (by exact hV2s)).trans d3
  have HK2 := hide (KO.on HKV.out hkV2)
  have HKA := hide (show KO V2 (V2.alloc (.cells #[] 21)) from KO.alloc (KO.refl _) _)
  have HD := hide (fun w' (hk : KO V2 w') (q : Nat) => (Below.cell (p := ⟨w.heap.size, q, none⟩) hk (by exact hV2s)).trans ((Below.cell (p := ⟨w.heap.size, q, none⟩) hkV2 (by exact HVS.out)).trans (HCV.out q)))
  clear hV2 hkV2 hV crV clV
  go_wp2_with (at_builtin; refine wpList_append_row _ rfl (.tmp 30) (.tmp 32) 22 rfl V2.heap.size 21 i32 (.int .i32 0) 4 Try.underlying22 HI.out HZ0.out HZ1.out HZ2.out rfl _ 0 [] rfl (owns_empty V2 21 V2.heap.size rfl) .i32 ta tn tc zs rfl ((HROW.out.below HK2.out).below HKA.out) (by omega) (by omega) (by simp) ?_; intro v3 w3 ho3 hb3; have hk3 : KO V2 w3 := Below.trans HKA.out hb3; have d0 : w3.cell? ⟨w.heap.size, 0, none⟩ = some (.int .i64 4) := HD.out w3 hk3 0; have d1 : w3.cell? ⟨w.heap.size, 1, none⟩ = some (.int .i64 fr) := HD.out w3 hk3 1)
  rw [List.nil_append, Nat.zero_add] at ho3
  have HO3 := hide ho3
  have HK3 := hide hk3
  have HKW3 := hide (KO.on HK2.out hk3)
  clear d3 d3a hb3 hk3 ho3
  obtain ⟨a3, c3, rfl, hr3⟩ := row_of_owns HO3.out
  have HR3 := hide hr3
  clear hr3
  obtain ⟨v0, hv0⟩ : ∃ v0 : Int, Calls Try.prog 37 #[.slice a n c, .int .i64 fr, .int .i64 fr] w3 fun r w' => r = .returned (.int .i64 v0) ∧ w3 = w' := by
    by_cases hh : 0 ≤ fr ∧ fr ≤ fr ∧ fr ≤ (n : Int)
    · exact ⟨0, wrong_ok a n c fr fr w3 hh.1 hh.2.1 hh.2.2⟩
    · exact ⟨4, wrong_no a n c fr fr w3 hh⟩
  have HV0 := hide hv0
  clear hv0
  refine HV0.out.mono ?_
  rintro r w' ⟨rfl, rfl⟩
  obtain ⟨q, hq, hAM⟩ := among_all fr (j + 1) hfr (by omega) (by omega)
  rw [show ((j + 1 : Nat) : Int) = (j : Int) + 1 from by omega] at hAM
  have HAM := hide hAM
  obtain ⟨k, hk⟩ : ∃ k, j - q = k := ⟨_, rfl⟩
  obtain ⟨hok, hnM, crk, clk⟩ := hes k (by omega)
  obtain ⟨e2, he2⟩ : ∃ e2, es k = e2 := ⟨_, rfl⟩
  rw [he2] at hok hnM crk clk
  obtain ⟨b2, t2, a2, n2, c2, l2⟩ := e2
  dsimp only at hnM crk clk
  have hsz2 := hok.size
  obtain ⟨hr2, hrow2, hwf2, hl2⟩ := hok
  dsimp only at hr2 hrow2 hwf2 hl2 hsz2
  have g1 : w3.cell? ⟨rb, k, none⟩ = some (.pointer (some ⟨b2, 0, none⟩)) := (Below.cell HKW3.out (by simpa using World.block_lt_of_cell? w _ crk)).trans crk
  have eqk : (j : Int) - (q : Int) = (k : Int) := by omega
  have ek : (k : Int) < (j : Int) + 1 := by omega
  have HCC := hide (Concat_ok b b2 t t2 w3 (HR.out.below HKW3.out) (hr2.below HKW3.out) (by have := HSZ.out; omega))
  have HROW2 := hide hrow2
  have HWF2 := hide hwf2
  have HL2 := hide hl2
  have hltk : lb < w.heap.size := by simpa using World.block_lt_of_cell? w _ clk
  have HCL := hide (fun w' (hk : KO w w') => (Below.cell (p := ⟨lb, k, none⟩) hk (by exact hltk)).trans clk)
  clear hAM hk hes hr2 hrow2 hwf2 hl2 crk clk hsz2 he2 hltk
  go_wp2_with (go_at_call 25; refine (HAM.out _).mono ?_; rintro r w' ⟨rfl, rfl⟩)
  refine HCC.out.mono ?_
  rintro r w4 ⟨b4, t4, rfl, hr4, hl4, hb4⟩
  have HKW4 := hide (KO.on HKW3.out hb4)
  have HR4 := hide hr4
  have HL4 := hide hl4
  have hx2 : ∀ w', KO w4 w' → w'.cell? ⟨lb, k, none⟩ = some (.slice a2 n2 c2) := fun w' hk => HCL.out w' (KO.on HKW4.out hk)
  have HRA := hide (fun w' (hk : KO w4 w') => HROWL.out.below (KO.on HKW4.out hk))
  have HRB := hide (fun w' (hk : KO w4 w') => HROW2.out.below (KO.on HKW4.out hk))
  have hK : KO w4 w4 := KO.refl _
  have hKd : KO w4 w4.drew := KO.drew hK
  have hKa : KO w4 (w4.drew.alloc (.cells #[] 21)) := KO.alloc hKd _
  clear hr4 hl4 hb4 d0 d1 g1
  go_wp2_with fail
  refine wp_region_noPanic ?_
  go_region_held_law (fun w' => KO w4 w') (first | assumption)
    (first
      | (refine step_append_row _ rfl (.tmp 131) (.tmp 132) 22 rfl w4.heap.size 21 i32 (.int .i32 0) 4 Try.underlying22 HI.out HZ0.out HZ1.out HZ2.out rfl _ 0 [] rfl (owns_empty w4.drew 21 w4.heap.size rfl) .i32 a n c l rfl (HRA.out _ hKa) (by omega) (by omega) (by simp) ?_; intro v5 w5 ho5 hb5; have hk5 : KO w4 w5 := Below.trans hKa hb5)
      | (refine step_append_row _ rfl (.tmp 133) (.tmp 137) 22 rfl w4.heap.size 21 i32 (.int .i32 0) 4 Try.underlying22 HI.out HZ0.out HZ1.out HZ2.out rfl _ (0 + n) _ rfl ho5 .i32 a2 n2 c2 l2 rfl (HRB.out _ hk5) (by omega) (by omega) (Below.size hk5) ?_; intro v6 w6 ho6 hb6; have hk6 : KO w4 w6 := Below.trans hk5 hb6))
  all_goals
    refine NoPanic.normal ?_
    have hmap : [] ++ l.map (Value.int .i32) ++ l2.map (Value.int .i32) = (l ++ l2).map (Value.int .i32) := by simp
    rw [hmap, Nat.zero_add] at ho6
    obtain ⟨a6, c6, rfl, hr6⟩ := row_of_owns ho6
    have HR6 := hide hr6
    have HK6 := hide hk6
    clear ho5 ho6 hb5 hb6 hk5 hk6 hr6 hmap hK hKd hKa hx2
    go_simp
    go_wp2_with fail
    go_ret3
    refine ⟨KO.on HKW4.out HK6.out, .inr ⟨⟨b4, t4, a6, n + n2, c6, l ++ l2⟩, rfl, ⟨HR4.out.below HK6.out, HR6.out, fun z hz => ?_, ?_⟩, ?_⟩⟩
    · rcases List.mem_append.1 hz with hz | hz
      · exact HWFL.out z hz
      · exact HWF2.out z hz
    · have h1 := HL4.out
      rw [HLI.out, HL2.out] at h1
      exact h1
    · show n + n2 ≤ 1500 + M
      omega
end Go.Proofs.Yteiljaecaahonaa
