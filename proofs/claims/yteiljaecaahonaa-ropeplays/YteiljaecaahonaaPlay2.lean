/- play: a rope split in two. -/
import Derived.Test.YteiljaecaahonaaPlay
namespace Go.Proofs.Yteiljaecaahonaa
open Go.RowKit
set_option linter.unusedVariables false
set_option maxHeartbeats 2000000
set_option maxRecDepth 100000
theorem run_head3 (ao : Option Addr) (n cap i : Nat) (hi : i ≤ cap) (w : World) :
    (Instr.slice 22 (.slice ao n cap) none (some (.int .i64 (i : Int))) (some (.int .i64 (i : Int)))).run Try.prog w = .ok (.slice ao i i) w := by
  obtain ⟨i32, hi32, _⟩ := info_parts infoR
  have e1 : (0 : Int) ≤ (i : Int) ∧ (i : Int) ≤ (cap : Int) := by omega
  simp [Instr.slice, run_underlying Try.underlying22, Instr.sliceBounds, go_sem, e1]
theorem run_rest (ao : Option Addr) (n cap i : Nat) (hi : i ≤ n) (w : World) :
    (Instr.slice 22 (.slice ao n cap) (some (.int .i64 (i : Int))) none none).run Try.prog w = .ok (.slice (tl ao cap i) (n - i) (cap - i)) w := by
  obtain ⟨i32, hi32, _⟩ := info_parts infoR
  exact run_from Try.underlying22 hi32 cellsR ao n cap i hi w
theorem Row.head3 {k : IntKind} {w : World} {ao : Option Addr} {n cap : Nat} {xs : List Int} (h : Row k w ao n cap xs) {i : Nat} (hi : i ≤ n) : Row k w ao i i (xs.take i) :=
  have h1 := h.take hi
  ⟨h1.len, Nat.le_refl _, by have := h.max; have := h.le; omega, h1.cells, fun hn => by have := h.nil hn; have := h.le; omega⟩
theorem play_2v (w : World) (rb lb rc lc j : Nat) (hrc : j + 1 ≤ rc) (hlc : j + 1 ≤ lc) (hj : j ≤ 64) (e : Ent) (he : e.ok w) (hen : e.n ≤ 1500) (M : Nat) (hM : 200 ≤ M)
    (cr : w.cell? ⟨rb, j, none⟩ = some (.pointer (some ⟨e.b, 0, none⟩))) (cl : w.cell? ⟨lb, j, none⟩ = some (.slice e.a e.n e.c))
    (fr tu : Int) (ta : Option Addr) (tn tc : Nat) (zs : List Int) (hrow : Row .i32 w ta tn tc zs) (hwf : ∀ x ∈ zs, (Lit.int .i32 x).wf = true) (htn : tn ≤ 200) (h1 : 0 ≤ fr) (h2 : fr ≤ (e.n : Int)) :
    Calls Try.prog 12 #[.slice (some ⟨rb, 0, none⟩) (j + 1) rc, .slice (some ⟨lb, 0, none⟩) (j + 1) lc, .agg #[.int .i64 2, .int .i64 fr, .int .i64 tu, .slice ta tn tc]] w (Played M w) := by
  obtain ⟨b, t, a, n, c, l⟩ := e
  have hsz := he.size
  obtain ⟨hr, hrowl, hwfl, hl⟩ := he
  dsimp only at hr hrowl hwfl hl hsz hen cr cl h2
  obtain ⟨V, hV⟩ : ∃ V, w.alloc (.cells #[.int .i64 2, .int .i64 fr, .int .i64 tu, .slice ta tn tc] 30) = V := ⟨_, rfl⟩
  have hkV : KO w V := by rw [← hV]; exact KO.alloc (KO.refl _) _
  have hVs : w.heap.size < V.heap.size := by rw [← hV]; simp
  have cV : ∀ j, V.cell? ⟨w.heap.size, j, none⟩ = (#[.int .i64 2, .int .i64 fr, .int .i64 tu, .slice ta tn tc] : Array Value)[j]? := fun j => by rw [← hV, World.cell?_alloc_mark]
  have crV : V.cell? ⟨rb, j, none⟩ = some (.pointer (some ⟨b, 0, none⟩)) := (Below.cell hkV (by simpa using World.block_lt_of_cell? w _ cr)).trans cr
  have clV : V.cell? ⟨lb, j, none⟩ = some (.slice a n c) := (Below.cell hkV (by simpa using World.block_lt_of_cell? w _ cl)).trans cl
  obtain ⟨i32, hi32, hz0, hz1, hz2⟩ := own32 w
  have HI : Hid (Try.prog.info? 21 = some i32) := hi32
  have HZ0 := hide hz0
  have HZ1 := hide hz1
  have HZ2 := hide hz2
  have HR := hide hr
  have HROWL := hide hrowl
  have HWFL := hide hwfl
  have HLI := hide hl
  have HSZ := hide hsz
  have HROW := hide hrow
  have HWF := hide hwf
  have HKV := hide hkV
  have HCV := hide cV
  have HVS := hide hVs
  have ej : (j : Int) < (j : Int) + 1 := by omega
  clear hr hrowl hwfl hl hsz hrow hwf hkV cV hVs cr cl hi32 hz0 hz1 hz2
  go_enter Try.func12, Try.ntmps12
  go_wp2_with fail
  go_quiet (fail)
  rename_i nq
  obtain ⟨V2, hV2⟩ : ∃ V2, V.drewN nq = V2 := ⟨_, rfl⟩
  have hkV2 : KO V V2 := by rw [← hV2]; exact keepN _ _
  rw [hV2]
  have hV2s : w.heap.size < V2.heap.size := Nat.lt_of_lt_of_le HVS.out (Below.size hkV2)
  have d3 : V2.cell? ⟨w.heap.size, 3, none⟩ = some (.slice ta tn tc) := (Below.cell hkV2 (by exact HVS.out)).trans (HCV.out 3)
  have d3a : ∀ o : Obj, (V2.alloc o).cell? ⟨w.heap.size, 3, none⟩ = some (.slice ta tn tc) := fun o => (World.cell?_alloc_past _ _ _ (by exact hV2s)).trans d3
  have HK2 := hide (KO.on HKV.out hkV2)
  have HKA := hide (show KO V2 (V2.alloc (.cells #[] 21)) from KO.alloc (KO.refl _) _)
  have HD := hide (fun w' (hk : KO V2 w') (q : Nat) => (Below.cell (p := ⟨w.heap.size, q, none⟩) hk (by exact hV2s)).trans ((Below.cell (p := ⟨w.heap.size, q, none⟩) hkV2 (by exact HVS.out)).trans (HCV.out q)))
  clear hV2 hkV2 hV crV clV
  go_wp2_with (at_builtin; refine wpList_append_row _ rfl (.tmp 30) (.tmp 32) 22 rfl V2.heap.size 21 i32 (.int .i32 0) 4 Try.underlying22 HI.out HZ0.out HZ1.out HZ2.out rfl _ 0 [] rfl (owns_empty V2 21 V2.heap.size rfl) .i32 ta tn tc zs rfl ((HROW.out.below HK2.out).below HKA.out) (by omega) (by omega) (by simp) ?_; intro v3 w3 ho3 hb3; have hk3 : KO V2 w3 := Below.trans HKA.out hb3; have d0 : w3.cell? ⟨w.heap.size, 0, none⟩ = some (.int .i64 2) := HD.out w3 hk3 0; have d1 : w3.cell? ⟨w.heap.size, 1, none⟩ = some (.int .i64 fr) := HD.out w3 hk3 1)
  rw [List.nil_append, Nat.zero_add] at ho3
  have HO3 := hide ho3
  have HK3 := hide hk3
  have HKW3 := hide (KO.on HK2.out hk3)
  clear d3 d3a hb3 hk3 ho3
  obtain ⟨a3, c3, rfl, hr3⟩ := row_of_owns HO3.out
  have HR3 := hide hr3
  clear hr3
  refine (wrong_ok a n c fr fr w3 (by omega) (by omega) (by omega)).mono ?_
  rintro r w' ⟨rfl, rfl⟩
  go_wp2_with fail
  refine (Split_ok b t fr w3 (HR.out.below HKW3.out) (by omega) (by have := HSZ.out; omega) (by have := HSZ.out; omega)).mono ?_
  rintro r w4 ⟨b8, b9, t8, t9, rfl, hr8, hr9, hl8, hl9, hb4⟩
  obtain ⟨i, hfi⟩ : ∃ i : Nat, fr = (i : Int) := ⟨fr.toNat, by omega⟩
  have k4 := KO.on HK3.out hb4
  have HKW4 := hide (KO.on HKW3.out hb4)
  have hlc := HROWL.out.le
  have hin : i ≤ n := by omega
  rw [hfi, Int.toNat_natCast, HLI.out] at hl8 hl9
  have HR8 := hide hr8
  have HR9 := hide hr9
  have HL8 := hide hl8
  have HL9 := hide hl9
  have e0 : w4.cell? ⟨w.heap.size, 0, none⟩ = some (.int .i64 2) := HD.out w4 k4 0
  have hx1 : ∀ w', KO w4 w' → w'.cell? ⟨w.heap.size, 1, none⟩ = some (.int .i64 fr) := fun w' hk => HD.out w' (KO.on k4 hk) 1
  have hsA := fun w' => run_head3 a n c i (by omega) w'
  have hsB := fun w' => run_rest a n c i hin w'
  rw [← hfi] at hsA hsB
  have HTL := hide (fun w' (hk : KO w4 w') => tells_any b9 t9 (tl a c i) (n - i) (c - i) (l.drop i) w' (HR9.out.below hk) ((HROWL.out.below (KO.on HKW4.out hk)).drop hin) (fun z hz => HWFL.out z (List.mem_of_mem_drop hz)) HL9.out (by omega))
  have HIN := hide hin
  have hK : KO w4 w4 := KO.refl _
  have hKd : KO w4 w4.drew := KO.drew hK
  clear hr8 hr9 hl8 hl9 hb4 k4 hfi d0 d1 hin hlc
  go_wp2_with fail
  refine wp_region_noPanic ?_
  go_region_held (fun w' => KO w4 w') (first | assumption)
    (first | (go_at_call 10; refine (HTL.out _ (by assumption)).mono ?_; rintro r w6 ⟨rfl, hb6⟩; have hk6 : KO w4 w6 := Below.trans (by assumption) (hb6.mono (by have : KO w4 _ := (by assumption); exact this.size))))
  all_goals
    refine NoPanic.normal ?_
    have HK6 := hide hk6
    have HKW6 := hide (KO.on HKW4.out hk6)
    clear hk6 hb6 hK hKd hx1 hsA hsB e0
    go_wp2_with fail
    go_ret3
    exact ⟨HKW6.out, .inr ⟨⟨b8, t8, a, i, i, l.take i⟩, rfl, ⟨HR8.out.below HK6.out, (HROWL.out.below HKW6.out).head3 HIN.out, (fun z hz => HWFL.out z (List.mem_of_mem_take hz)), HL8.out⟩, by show i ≤ 1500 + M; have := HIN.out; omega⟩⟩
theorem play_2i (w : World) (rb lb rc lc j : Nat) (hrc : j + 1 ≤ rc) (hlc : j + 1 ≤ lc) (hj : j ≤ 64) (e : Ent) (he : e.ok w) (hen : e.n ≤ 1500) (M : Nat) (hM : 200 ≤ M)
    (cr : w.cell? ⟨rb, j, none⟩ = some (.pointer (some ⟨e.b, 0, none⟩))) (cl : w.cell? ⟨lb, j, none⟩ = some (.slice e.a e.n e.c))
    (fr tu : Int) (ta : Option Addr) (tn tc : Nat) (zs : List Int) (hrow : Row .i32 w ta tn tc zs) (hwf : ∀ x ∈ zs, (Lit.int .i32 x).wf = true) (htn : tn ≤ 200) (h1 : ¬ (0 ≤ fr ∧ fr ≤ fr ∧ fr ≤ (e.n : Int))) :
    Calls Try.prog 12 #[.slice (some ⟨rb, 0, none⟩) (j + 1) rc, .slice (some ⟨lb, 0, none⟩) (j + 1) lc, .agg #[.int .i64 2, .int .i64 fr, .int .i64 tu, .slice ta tn tc]] w (Played M w) := by
  obtain ⟨b, t, a, n, c, l⟩ := e
  have hsz := he.size
  obtain ⟨hr, hrowl, hwfl, hl⟩ := he
  dsimp only at hr hrowl hwfl hl hsz hen cr cl h1
  obtain ⟨V, hV⟩ : ∃ V, w.alloc (.cells #[.int .i64 2, .int .i64 fr, .int .i64 tu, .slice ta tn tc] 30) = V := ⟨_, rfl⟩
  have hkV : KO w V := by rw [← hV]; exact KO.alloc (KO.refl _) _
  have hVs : w.heap.size < V.heap.size := by rw [← hV]; simp
  have cV : ∀ j, V.cell? ⟨w.heap.size, j, none⟩ = (#[.int .i64 2, .int .i64 fr, .int .i64 tu, .slice ta tn tc] : Array Value)[j]? := fun j => by rw [← hV, World.cell?_alloc_mark]
  have crV : V.cell? ⟨rb, j, none⟩ = some (.pointer (some ⟨b, 0, none⟩)) := (Below.cell hkV (by simpa using World.block_lt_of_cell? w _ cr)).trans cr
  have clV : V.cell? ⟨lb, j, none⟩ = some (.slice a n c) := (Below.cell hkV (by simpa using World.block_lt_of_cell? w _ cl)).trans cl
  obtain ⟨i32, hi32, hz0, hz1, hz2⟩ := own32 w
  have HI : Hid (Try.prog.info? 21 = some i32) := hi32
  have HZ0 := hide hz0
  have HZ1 := hide hz1
  have HZ2 := hide hz2
  have HR := hide hr
  have HROWL := hide hrowl
  have HWFL := hide hwfl
  have HLI := hide hl
  have HSZ := hide hsz
  have HROW := hide hrow
  have HWF := hide hwf
  have HKV := hide hkV
  have HCV := hide cV
  have HVS := hide hVs
  have ej : (j : Int) < (j : Int) + 1 := by omega
  clear hr hrowl hwfl hl hsz hrow hwf hkV cV hVs cr cl hi32 hz0 hz1 hz2
  go_enter Try.func12, Try.ntmps12
  go_wp2_with fail
  go_quiet (fail)
  rename_i nq
  obtain ⟨V2, hV2⟩ : ∃ V2, V.drewN nq = V2 := ⟨_, rfl⟩
  have hkV2 : KO V V2 := by rw [← hV2]; exact keepN _ _
  rw [hV2]
  have hV2s : w.heap.size < V2.heap.size := Nat.lt_of_lt_of_le HVS.out (Below.size hkV2)
  have d3 : V2.cell? ⟨w.heap.size, 3, none⟩ = some (.slice ta tn tc) := (Below.cell hkV2 (by exact HVS.out)).trans (HCV.out 3)
  have d3a : ∀ o : Obj, (V2.alloc o).cell? ⟨w.heap.size, 3, none⟩ = some (.slice ta tn tc) := fun o => (World.cell?_alloc_past _ _ _ (by exact hV2s)).trans d3
  have HK2 := hide (KO.on HKV.out hkV2)
  have HKA := hide (show KO V2 (V2.alloc (.cells #[] 21)) from KO.alloc (KO.refl _) _)
  have HD := hide (fun w' (hk : KO V2 w') (q : Nat) => (Below.cell (p := ⟨w.heap.size, q, none⟩) hk (by exact hV2s)).trans ((Below.cell (p := ⟨w.heap.size, q, none⟩) hkV2 (by exact HVS.out)).trans (HCV.out q)))
  clear hV2 hkV2 hV crV clV
  go_wp2_with (at_builtin; refine wpList_append_row _ rfl (.tmp 30) (.tmp 32) 22 rfl V2.heap.size 21 i32 (.int .i32 0) 4 Try.underlying22 HI.out HZ0.out HZ1.out HZ2.out rfl _ 0 [] rfl (owns_empty V2 21 V2.heap.size rfl) .i32 ta tn tc zs rfl ((HROW.out.below HK2.out).below HKA.out) (by omega) (by omega) (by simp) ?_; intro v3 w3 ho3 hb3; have hk3 : KO V2 w3 := Below.trans HKA.out hb3; have d0 : w3.cell? ⟨w.heap.size, 0, none⟩ = some (.int .i64 2) := HD.out w3 hk3 0; have d1 : w3.cell? ⟨w.heap.size, 1, none⟩ = some (.int .i64 fr) := HD.out w3 hk3 1)
  rw [List.nil_append, Nat.zero_add] at ho3
  have HO3 := hide ho3
  have HK3 := hide hk3
  have HKW3 := hide (KO.on HK2.out hk3)
  clear d3 d3a hb3 hk3 ho3
  obtain ⟨a3, c3, rfl, hr3⟩ := row_of_owns HO3.out
  have HR3 := hide hr3
  clear hr3
  refine (wrong_no a n c fr fr w3 (by omega)).mono ?_
  rintro r w' ⟨rfl, rfl⟩
  go_wp2_with fail
  refine (Split_bad b t fr w3 (HR.out.below HKW3.out) (by have := HSZ.out; omega)).mono ?_
  rintro r w' ⟨rfl, rfl⟩
  go_wp2_with fail
  go_ret3
  exact ⟨HKW3.out, .inl rfl⟩
theorem play_3v (w : World) (rb lb rc lc j : Nat) (hrc : j + 1 ≤ rc) (hlc : j + 1 ≤ lc) (hj : j ≤ 64) (e : Ent) (he : e.ok w) (hen : e.n ≤ 1500) (M : Nat) (hM : 200 ≤ M)
    (cr : w.cell? ⟨rb, j, none⟩ = some (.pointer (some ⟨e.b, 0, none⟩))) (cl : w.cell? ⟨lb, j, none⟩ = some (.slice e.a e.n e.c))
    (fr tu : Int) (ta : Option Addr) (tn tc : Nat) (zs : List Int) (hrow : Row .i32 w ta tn tc zs) (hwf : ∀ x ∈ zs, (Lit.int .i32 x).wf = true) (htn : tn ≤ 200) (h1 : 0 ≤ fr) (h2 : fr ≤ (e.n : Int)) :
    Calls Try.prog 12 #[.slice (some ⟨rb, 0, none⟩) (j + 1) rc, .slice (some ⟨lb, 0, none⟩) (j + 1) lc, .agg #[.int .i64 3, .int .i64 fr, .int .i64 tu, .slice ta tn tc]] w (Played M w) := by
  obtain ⟨b, t, a, n, c, l⟩ := e
  have hsz := he.size
  obtain ⟨hr, hrowl, hwfl, hl⟩ := he
  dsimp only at hr hrowl hwfl hl hsz hen cr cl h2
  obtain ⟨V, hV⟩ : ∃ V, w.alloc (.cells #[.int .i64 3, .int .i64 fr, .int .i64 tu, .slice ta tn tc] 30) = V := ⟨_, rfl⟩
  have hkV : KO w V := by rw [← hV]; exact KO.alloc (KO.refl _) _
  have hVs : w.heap.size < V.heap.size := by rw [← hV]; simp
  have cV : ∀ j, V.cell? ⟨w.heap.size, j, none⟩ = (#[.int .i64 3, .int .i64 fr, .int .i64 tu, .slice ta tn tc] : Array Value)[j]? := fun j => by rw [← hV, World.cell?_alloc_mark]
  have crV : V.cell? ⟨rb, j, none⟩ = some (.pointer (some ⟨b, 0, none⟩)) := (Below.cell hkV (by simpa using World.block_lt_of_cell? w _ cr)).trans cr
  have clV : V.cell? ⟨lb, j, none⟩ = some (.slice a n c) := (Below.cell hkV (by simpa using World.block_lt_of_cell? w _ cl)).trans cl
  obtain ⟨i32, hi32, hz0, hz1, hz2⟩ := own32 w
  have HI : Hid (Try.prog.info? 21 = some i32) := hi32
  have HZ0 := hide hz0
  have HZ1 := hide hz1
  have HZ2 := hide hz2
  have HR := hide hr
  have HROWL := hide hrowl
  have HWFL := hide hwfl
  have HLI := hide hl
  have HSZ := hide hsz
  have HROW := hide hrow
  have HWF := hide hwf
  have HKV := hide hkV
  have HCV := hide cV
  have HVS := hide hVs
  have ej : (j : Int) < (j : Int) + 1 := by omega
  clear hr hrowl hwfl hl hsz hrow hwf hkV cV hVs cr cl hi32 hz0 hz1 hz2
  go_enter Try.func12, Try.ntmps12
  go_wp2_with fail
  go_quiet (fail)
  rename_i nq
  obtain ⟨V2, hV2⟩ : ∃ V2, V.drewN nq = V2 := ⟨_, rfl⟩
  have hkV2 : KO V V2 := by rw [← hV2]; exact keepN _ _
  rw [hV2]
  have hV2s : w.heap.size < V2.heap.size := Nat.lt_of_lt_of_le HVS.out (Below.size hkV2)
  have d3 : V2.cell? ⟨w.heap.size, 3, none⟩ = some (.slice ta tn tc) := (Below.cell hkV2 (by exact HVS.out)).trans (HCV.out 3)
  have d3a : ∀ o : Obj, (V2.alloc o).cell? ⟨w.heap.size, 3, none⟩ = some (.slice ta tn tc) := fun o => (World.cell?_alloc_past _ _ _ (by exact hV2s)).trans d3
  have HK2 := hide (KO.on HKV.out hkV2)
  have HKA := hide (show KO V2 (V2.alloc (.cells #[] 21)) from KO.alloc (KO.refl _) _)
  have HD := hide (fun w' (hk : KO V2 w') (q : Nat) => (Below.cell (p := ⟨w.heap.size, q, none⟩) hk (by exact hV2s)).trans ((Below.cell (p := ⟨w.heap.size, q, none⟩) hkV2 (by exact HVS.out)).trans (HCV.out q)))
  clear hV2 hkV2 hV crV clV
  go_wp2_with (at_builtin; refine wpList_append_row _ rfl (.tmp 30) (.tmp 32) 22 rfl V2.heap.size 21 i32 (.int .i32 0) 4 Try.underlying22 HI.out HZ0.out HZ1.out HZ2.out rfl _ 0 [] rfl (owns_empty V2 21 V2.heap.size rfl) .i32 ta tn tc zs rfl ((HROW.out.below HK2.out).below HKA.out) (by omega) (by omega) (by simp) ?_; intro v3 w3 ho3 hb3; have hk3 : KO V2 w3 := Below.trans HKA.out hb3; have d0 : w3.cell? ⟨w.heap.size, 0, none⟩ = some (.int .i64 3) := HD.out w3 hk3 0; have d1 : w3.cell? ⟨w.heap.size, 1, none⟩ = some (.int .i64 fr) := HD.out w3 hk3 1)
  rw [List.nil_append, Nat.zero_add] at ho3
  have HO3 := hide ho3
  have HK3 := hide hk3
  have HKW3 := hide (KO.on HK2.out hk3)
  clear d3 d3a hb3 hk3 ho3
  obtain ⟨a3, c3, rfl, hr3⟩ := row_of_owns HO3.out
  have HR3 := hide hr3
  clear hr3
  refine (wrong_ok a n c fr fr w3 (by omega) (by omega) (by omega)).mono ?_
  rintro r w' ⟨rfl, rfl⟩
  go_wp2_with fail
  refine (Split_ok b t fr w3 (HR.out.below HKW3.out) (by omega) (by have := HSZ.out; omega) (by have := HSZ.out; omega)).mono ?_
  rintro r w4 ⟨b8, b9, t8, t9, rfl, hr8, hr9, hl8, hl9, hb4⟩
  obtain ⟨i, hfi⟩ : ∃ i : Nat, fr = (i : Int) := ⟨fr.toNat, by omega⟩
  have k4 := KO.on HK3.out hb4
  have HKW4 := hide (KO.on HKW3.out hb4)
  have hlc := HROWL.out.le
  have hin : i ≤ n := by omega
  rw [hfi, Int.toNat_natCast, HLI.out] at hl8 hl9
  have HR8 := hide hr8
  have HR9 := hide hr9
  have HL8 := hide hl8
  have HL9 := hide hl9
  have e0 : w4.cell? ⟨w.heap.size, 0, none⟩ = some (.int .i64 3) := HD.out w4 k4 0
  have hx1 : ∀ w', KO w4 w' → w'.cell? ⟨w.heap.size, 1, none⟩ = some (.int .i64 fr) := fun w' hk => HD.out w' (KO.on k4 hk) 1
  have hsA := fun w' => run_head a n c i (by omega) w'
  have hsB := fun w' => run_rest a n c i hin w'
  rw [← hfi] at hsA hsB
  have HTL := hide (fun w' (hk : KO w4 w') => tells_any b8 t8 a i c (l.take i) w' (HR8.out.below hk) ((HROWL.out.below (KO.on HKW4.out hk)).take hin) (fun z hz => HWFL.out z (List.mem_of_mem_take hz)) HL8.out (by omega))
  have HIN := hide hin
  have hK : KO w4 w4 := KO.refl _
  have hKd : KO w4 w4.drew := KO.drew hK
  clear hr8 hr9 hl8 hl9 hb4 k4 hfi d0 d1 hin hlc
  go_wp2_with fail
  refine wp_region_noPanic ?_
  go_region_held (fun w' => KO w4 w') (first | assumption)
    (first | (go_at_call 10; refine (HTL.out _ (by assumption)).mono ?_; rintro r w6 ⟨rfl, hb6⟩; have hk6 : KO w4 w6 := Below.trans (by assumption) (hb6.mono (by have : KO w4 _ := (by assumption); exact this.size))))
  all_goals
    refine NoPanic.normal ?_
    have HK6 := hide hk6
    have HKW6 := hide (KO.on HKW4.out hk6)
    clear hk6 hb6 hK hKd hx1 hsA hsB e0
    go_wp2_with fail
    go_ret3
    exact ⟨HKW6.out, .inr ⟨⟨b9, t9, tl a c i, n - i, c - i, l.drop i⟩, rfl, ⟨HR9.out.below HK6.out, (HROWL.out.below HKW6.out).drop HIN.out, (fun z hz => HWFL.out z (List.mem_of_mem_drop hz)), HL9.out⟩, by show n - i ≤ 1500 + M; have := HIN.out; omega⟩⟩
theorem play_3i (w : World) (rb lb rc lc j : Nat) (hrc : j + 1 ≤ rc) (hlc : j + 1 ≤ lc) (hj : j ≤ 64) (e : Ent) (he : e.ok w) (hen : e.n ≤ 1500) (M : Nat) (hM : 200 ≤ M)
    (cr : w.cell? ⟨rb, j, none⟩ = some (.pointer (some ⟨e.b, 0, none⟩))) (cl : w.cell? ⟨lb, j, none⟩ = some (.slice e.a e.n e.c))
    (fr tu : Int) (ta : Option Addr) (tn tc : Nat) (zs : List Int) (hrow : Row .i32 w ta tn tc zs) (hwf : ∀ x ∈ zs, (Lit.int .i32 x).wf = true) (htn : tn ≤ 200) (h1 : ¬ (0 ≤ fr ∧ fr ≤ fr ∧ fr ≤ (e.n : Int))) :
    Calls Try.prog 12 #[.slice (some ⟨rb, 0, none⟩) (j + 1) rc, .slice (some ⟨lb, 0, none⟩) (j + 1) lc, .agg #[.int .i64 3, .int .i64 fr, .int .i64 tu, .slice ta tn tc]] w (Played M w) := by
  obtain ⟨b, t, a, n, c, l⟩ := e
  have hsz := he.size
  obtain ⟨hr, hrowl, hwfl, hl⟩ := he
  dsimp only at hr hrowl hwfl hl hsz hen cr cl h1
  obtain ⟨V, hV⟩ : ∃ V, w.alloc (.cells #[.int .i64 3, .int .i64 fr, .int .i64 tu, .slice ta tn tc] 30) = V := ⟨_, rfl⟩
  have hkV : KO w V := by rw [← hV]; exact KO.alloc (KO.refl _) _
  have hVs : w.heap.size < V.heap.size := by rw [← hV]; simp
  have cV : ∀ j, V.cell? ⟨w.heap.size, j, none⟩ = (#[.int .i64 3, .int .i64 fr, .int .i64 tu, .slice ta tn tc] : Array Value)[j]? := fun j => by rw [← hV, World.cell?_alloc_mark]
  have crV : V.cell? ⟨rb, j, none⟩ = some (.pointer (some ⟨b, 0, none⟩)) := (Below.cell hkV (by simpa using World.block_lt_of_cell? w _ cr)).trans cr
  have clV : V.cell? ⟨lb, j, none⟩ = some (.slice a n c) := (Below.cell hkV (by simpa using World.block_lt_of_cell? w _ cl)).trans cl
  obtain ⟨i32, hi32, hz0, hz1, hz2⟩ := own32 w
  have HI : Hid (Try.prog.info? 21 = some i32) := hi32
  have HZ0 := hide hz0
  have HZ1 := hide hz1
  have HZ2 := hide hz2
  have HR := hide hr
  have HROWL := hide hrowl
  have HWFL := hide hwfl
  have HLI := hide hl
  have HSZ := hide hsz
  have HROW := hide hrow
  have HWF := hide hwf
  have HKV := hide hkV
  have HCV := hide cV
  have HVS := hide hVs
  have ej : (j : Int) < (j : Int) + 1 := by omega
  clear hr hrowl hwfl hl hsz hrow hwf hkV cV hVs cr cl hi32 hz0 hz1 hz2
  go_enter Try.func12, Try.ntmps12
  go_wp2_with fail
  go_quiet (fail)
  rename_i nq
  obtain ⟨V2, hV2⟩ : ∃ V2, V.drewN nq = V2 := ⟨_, rfl⟩
  have hkV2 : KO V V2 := by rw [← hV2]; exact keepN _ _
  rw [hV2]
  have hV2s : w.heap.size < V2.heap.size := Nat.lt_of_lt_of_le HVS.out (Below.size hkV2)
  have d3 : V2.cell? ⟨w.heap.size, 3, none⟩ = some (.slice ta tn tc) := (Below.cell hkV2 (by exact HVS.out)).trans (HCV.out 3)
  have d3a : ∀ o : Obj, (V2.alloc o).cell? ⟨w.heap.size, 3, none⟩ = some (.slice ta tn tc) := fun o => (World.cell?_alloc_past _ _ _ (by exact hV2s)).trans d3
  have HK2 := hide (KO.on HKV.out hkV2)
  have HKA := hide (show KO V2 (V2.alloc (.cells #[] 21)) from KO.alloc (KO.refl _) _)
  have HD := hide (fun w' (hk : KO V2 w') (q : Nat) => (Below.cell (p := ⟨w.heap.size, q, none⟩) hk (by exact hV2s)).trans ((Below.cell (p := ⟨w.heap.size, q, none⟩) hkV2 (by exact HVS.out)).trans (HCV.out q)))
  clear hV2 hkV2 hV crV clV
  go_wp2_with (at_builtin; refine wpList_append_row _ rfl (.tmp 30) (.tmp 32) 22 rfl V2.heap.size 21 i32 (.int .i32 0) 4 Try.underlying22 HI.out HZ0.out HZ1.out HZ2.out rfl _ 0 [] rfl (owns_empty V2 21 V2.heap.size rfl) .i32 ta tn tc zs rfl ((HROW.out.below HK2.out).below HKA.out) (by omega) (by omega) (by simp) ?_; intro v3 w3 ho3 hb3; have hk3 : KO V2 w3 := Below.trans HKA.out hb3; have d0 : w3.cell? ⟨w.heap.size, 0, none⟩ = some (.int .i64 3) := HD.out w3 hk3 0; have d1 : w3.cell? ⟨w.heap.size, 1, none⟩ = some (.int .i64 fr) := HD.out w3 hk3 1)
  rw [List.nil_append, Nat.zero_add] at ho3
  have HO3 := hide ho3
  have HK3 := hide hk3
  have HKW3 := hide (KO.on HK2.out hk3)
  clear d3 d3a hb3 hk3 ho3
  obtain ⟨a3, c3, rfl, hr3⟩ := row_of_owns HO3.out
  have HR3 := hide hr3
  clear hr3
  refine (wrong_no a n c fr fr w3 (by omega)).mono ?_
  rintro r w' ⟨rfl, rfl⟩
  go_wp2_with fail
  refine (Split_bad b t fr w3 (HR.out.below HKW3.out) (by have := HSZ.out; omega)).mono ?_
  rintro r w' ⟨rfl, rfl⟩
  go_wp2_with fail
  go_ret3
  exact ⟨HKW3.out, .inl rfl⟩
end Go.Proofs.Yteiljaecaahonaa
