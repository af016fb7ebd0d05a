/- play: a call of a rope and of a list. -/
import Derived.Test.YteiljaecaahonaaTells
import Derived.Test.YteiljaecaahonaaAsked
import Derived.Test.YteiljaecaahonaaBal
import Derived.Test.YteiljaecaahonaaCopy
import Derived.Deep.QuietTactic
import Derived.BigQuiet
import Derived.Deep.RegionHeld3
import Derived.Deep.RegionHeldLaw
namespace Go.Proofs.Yteiljaecaahonaa
open Go.RowKit
set_option linter.unusedVariables false
set_option maxHeartbeats 2000000
set_option maxRecDepth 100000
/-- A rope with its list. -/
structure Ent where
  b : Nat
  t : Tr
  a : Option Addr
  n : Nat
  c : Nat
  l : List Int
structure Ent.ok (w : World) (e : Ent) : Prop where
  rope : IsRope w e.b e.t
  row : Row .i32 w e.a e.n e.c e.l
  wf : ∀ x ∈ e.l, (Lit.int .i32 x).wf = true
  same : e.t.list = e.l
theorem Ent.ok.below {w w' : World} {e : Ent} (h : e.ok w) (hb : Below w.heap.size w w') : e.ok w' := ⟨h.rope.below hb, h.row.below hb, h.wf, h.same⟩
theorem Ent.ok.size {w : World} {e : Ent} (h : e.ok w) : e.t.size = e.n := by unfold Tr.size; rw [h.same]; exact h.row.len
/-- What play answers. -/
def Played (M : Nat) (w : World) (r : Ending) (w' : World) : Prop :=
  Below w.heap.size w w' ∧ (r = .returned (.tuple #[.pointer none, .slice none 0 0, .bool true]) ∨ ∃ e : Ent, r = .returned (.tuple #[.pointer (some ⟨e.b, 0, none⟩), .slice e.a e.n e.c, .bool true]) ∧ e.ok w' ∧ e.n ≤ 1500 + M)
theorem put_wf {l m : List Int} (hl : ∀ x ∈ l, (Lit.int .i32 x).wf = true) (hm : ∀ x ∈ m, (Lit.int .i32 x).wf = true) (i j : Nat) : ∀ x ∈ l.take i ++ m ++ l.drop j, (Lit.int .i32 x).wf = true := fun x hx => by
  simp only [List.mem_append] at hx
  rcases hx with (hx | hx) | hx
  · exact hl x (List.mem_of_mem_take hx)
  · exact hm x hx
  · exact hl x (List.mem_of_mem_drop hx)
theorem rput_any (ao : Option Addr) (n cap : Nat) (l : List Int) (i j : Nat) (a1 : Option Addr) (n1 cap1 : Nat) (m : List Int) (w : World) (h : Row .i32 w ao n cap l) (h1 : Row .i32 w a1 n1 cap1 m) (hij : i ≤ j) (hj : j ≤ n) (hn : n ≤ 1000000) (hn1 : n1 ≤ 1000000) :
    Calls Try.prog 40 #[.slice ao n cap, .int .i64 (i : Int), .int .i64 (j : Int), .slice a1 n1 cap1] w fun e w' => ∃ a2 c2, e = .returned (.slice a2 (i + n1 + (n - j)) c2) ∧ Row .i32 w' a2 (i + n1 + (n - j)) c2 (l.take i ++ m ++ l.drop j) ∧ Below w.heap.size w w' := by
  obtain ⟨i32, hi32, hz0, hz1, hz2⟩ := own32 w
  have HI : Hid (Try.prog.info? 21 = some i32) := hi32
  have HZ0 := hide hz0
  have HZ1 := hide hz1
  have HZ2 := hide hz2
  have hle := h.le
  have hsl1 := run_head ao n cap i (by omega)
  have hsl2 := run_from Try.underlying22 hi32 cellsR ao n cap j hj
  have HKA := hide (show KO w (w.alloc (.cells #[] 21)) from KO.alloc (KO.refl _) _)
  have HR0 := hide (fun w' (hk : KO w w') => (h.below hk).take (e := i) (by omega))
  have HR1 := hide (fun w' (hk : KO w w') => h1.below hk)
  have HR2 := hide (fun w' (hk : KO w w') => (h.below hk).drop (j := j) hj)
  clear h h1 hi32 hz0 hz1 hz2
  go_enter Try.func40, Try.ntmps40
  go_wp2_with (first
    | (at_builtin; refine wpList_append_row _ rfl (.tmp 10) (.tmp 13) 22 rfl w.heap.size 21 i32 (.int .i32 0) 4 Try.underlying22 HI.out HZ0.out HZ1.out HZ2.out rfl _ 0 [] rfl (owns_empty w 21 w.heap.size rfl) .i32 ao i cap (l.take i) rfl (HR0.out _ HKA.out) (by omega) (by omega) (by simp) ?_; intro v2 w2 ho2 hb2; have hk2 : KO w w2 := Below.trans HKA.out hb2)
    | (at_builtin; refine wpList_append_row _ rfl (.tmp 15) (.tmp 16) 22 rfl w.heap.size 21 i32 (.int .i32 0) 4 Try.underlying22 HI.out HZ0.out HZ1.out HZ2.out rfl _ (0 + i) _ rfl ho2 .i32 a1 n1 cap1 m rfl (HR1.out _ hk2) (by omega) (by omega) (Below.size hk2) ?_; intro v3 w3 ho3 hb3; have hk3 : KO w w3 := Below.trans hk2 hb3)
    | (at_builtin; refine wpList_append_row _ rfl (.tmp 18) (.tmp 21) 22 rfl w.heap.size 21 i32 (.int .i32 0) 4 Try.underlying22 HI.out HZ0.out HZ1.out HZ2.out rfl _ (0 + i + n1) _ rfl ho3 .i32 _ _ _ _ rfl (HR2.out _ hk3) (by omega) (by omega) (Below.size hk3) ?_; intro v4 w4 ho4 hb4; have hk4 : KO w w4 := Below.trans hk3 hb4))
  have hmap : [] ++ (l.take i).map (Value.int .i32) ++ m.map (Value.int .i32) ++ (l.drop j).map (Value.int .i32) = (l.take i ++ m ++ l.drop j).map (Value.int .i32) := by simp
  rw [hmap, Nat.zero_add] at ho4
  obtain ⟨a4, c4, rfl, hr4⟩ := row_of_owns ho4
  have HR4 := hide hr4
  have HK4 := hide hk4
  clear ho2 ho3 ho4 hb2 hb3 hb4 hk2 hk3 hk4 hr4 hmap hsl1 hsl2
  go_ret
  exact ⟨a4, c4, rfl, HR4.out, HK4.out⟩
theorem play_0v (w : World) (rb lb rc lc j : Nat) (hrc : j + 1 ≤ rc) (hlc : j + 1 ≤ lc) (hj : j ≤ 64) (e : Ent) (he : e.ok w) (hen : e.n ≤ 1500) (M : Nat) (hM : 200 ≤ M)
    (cr : w.cell? ⟨rb, j, none⟩ = some (.pointer (some ⟨e.b, 0, none⟩))) (cl : w.cell? ⟨lb, j, none⟩ = some (.slice e.a e.n e.c))
    (fr tu : Int) (ta : Option Addr) (tn tc : Nat) (zs : List Int) (hrow : Row .i32 w ta tn tc zs) (hwf : ∀ x ∈ zs, (Lit.int .i32 x).wf = true) (htn : tn ≤ 200) (h1 : 0 ≤ fr) (h2 : fr ≤ (e.n : Int)) :
    Calls Try.prog 12 #[.slice (some ⟨rb, 0, none⟩) (j + 1) rc, .slice (some ⟨lb, 0, none⟩) (j + 1) lc, .agg #[.int .i64 0, .int .i64 fr, .int .i64 tu, .slice ta tn tc]] w (Played M w) := by
  obtain ⟨b, t, a, n, c, l⟩ := e
  have hsz := he.size
  obtain ⟨hr, hrowl, hwfl, hl⟩ := he
  dsimp only at hr hrowl hwfl hl hsz hen cr cl h2
  obtain ⟨V, hV⟩ : ∃ V, w.alloc (.cells #[.int .i64 0, .int .i64 fr, .int .i64 tu, .slice ta tn tc] 30) = V := ⟨_, rfl⟩
  have hkV : KO w V := by rw [← hV]; exact KO.alloc (KO.refl _) _
  have hVs : w.heap.size < V.heap.size := by rw [← hV]; simp
  have cV : ∀ j, V.cell? ⟨w.heap.size, j, none⟩ = (#[.int .i64 0, .int .i64 fr, .int .i64 tu, .slice ta tn tc] : Array Value)[j]? := fun j => by rw [← hV, World.cell?_alloc_mark]
  have crV : V.cell? ⟨rb, j, none⟩ = some (.pointer (some ⟨b, 0, none⟩)) := (Below.cell hkV (by simpa using World.block_lt_of_cell? w _ cr)).trans cr
  have clV : V.cell? ⟨lb, j, none⟩ = some (.slice a n c) := (Below.cell hkV (by simpa using World.block_lt_of_cell? w _ cl)).trans cl
  obtain ⟨i32, hi32, hz0, hz1, hz2⟩ := own32 w
  have HI : Hid (Try.prog.info? 21 = some i32) := hi32
  have HZ0 := hide hz0
  have HZ1 := hide hz1
  have HZ2 := hide hz2
  have HR := hide hr
  have HROWL := hide hrowl
  have HWFL := hide hwfl
  have HLI := hide hl
  have HSZ := hide hsz
  have HROW := hide hrow
  have HWF := hide hwf
  have HKV := hide hkV
  have HCV := hide cV
  have HVS := hide hVs
  have ej : (j : Int) < (j : Int) + 1 := by omega
  clear hr hrowl hwfl hl hsz hrow hwf hkV cV hVs cr cl hi32 hz0 hz1 hz2
  go_enter Try.func12, Try.ntmps12
  go_wp2_with fail
  go_quiet (fail)
  rename_i nq
  obtain ⟨V2, hV2⟩ : ∃ V2, V.drewN nq = V2 := ⟨_, rfl⟩
  have hkV2 : KO V V2 := by rw [← hV2]; exact keepN _ _
  rw [hV2]
  have hV2s : w.heap.size < V2.heap.size := Nat.lt_of_lt_of_le HVS.out (Below.size hkV2)
  have d3 : V2.cell? ⟨w.heap.size, 3, none⟩ = some (.slice ta tn tc) := (Below.cell hkV2 (by exact HVS.out)).trans (HCV.out 3)
  have d3a : ∀ o : Obj, (V2.alloc o).cell? ⟨w.heap.size, 3, none⟩ = some (.slice ta tn tc) := fun o => (World.cell?_alloc_past _ _ _ (by exact hV2s)).trans d3
  have HK2 := hide (KO.on HKV.out hkV2)
  have HKA := hide (show KO V2 (V2.alloc (.cells #[] 21)) from KO.alloc (KO.refl _) _)
  have HD := hide (fun w' (hk : KO V2 w') (q : Nat) => (Below.cell (p := ⟨w.heap.size, q, none⟩) hk (by exact hV2s)).trans ((Below.cell (p := ⟨w.heap.size, q, none⟩) hkV2 (by exact HVS.out)).trans (HCV.out q)))
  clear hV2 hkV2 hV crV clV
  go_wp2_with (at_builtin; refine wpList_append_row _ rfl (.tmp 30) (.tmp 32) 22 rfl V2.heap.size 21 i32 (.int .i32 0) 4 Try.underlying22 HI.out HZ0.out HZ1.out HZ2.out rfl _ 0 [] rfl (owns_empty V2 21 V2.heap.size rfl) .i32 ta tn tc zs rfl ((HROW.out.below HK2.out).below HKA.out) (by omega) (by omega) (by simp) ?_; intro v3 w3 ho3 hb3; have hk3 : KO V2 w3 := Below.trans HKA.out hb3; have d0 : w3.cell? ⟨w.heap.size, 0, none⟩ = some (.int .i64 0) := HD.out w3 hk3 0; have d1 : w3.cell? ⟨w.heap.size, 1, none⟩ = some (.int .i64 fr) := HD.out w3 hk3 1)
  rw [List.nil_append, Nat.zero_add] at ho3
  have HO3 := hide ho3
  have HK3 := hide hk3
  have HKW3 := hide (KO.on HK2.out hk3)
  clear d3 d3a hb3 hk3 ho3
  obtain ⟨a3, c3, rfl, hr3⟩ := row_of_owns HO3.out
  have HR3 := hide hr3
  clear hr3
  refine (wrong_ok a n c fr fr w3 (by omega) (by omega) (by omega)).mono ?_
  rintro r w' ⟨rfl, rfl⟩
  go_wp2_with fail
  obtain ⟨i, hfi⟩ : ∃ i : Nat, fr = (i : Int) := ⟨fr.toNat, by omega⟩
  refine (Insert_ok b t fr a3 tn c3 zs w3 (HR.out.below HKW3.out) HR3.out HWF.out (by omega) (by have := HSZ.out; omega) (by have := HSZ.out; omega)).mono ?_
  rintro r w4 ⟨b4, t4, rfl, hr4, hl4, hb4⟩
  have k4 := KO.on HK3.out hb4
  have HKW4 := hide (KO.on HKW3.out hb4)
  have e0 : w4.cell? ⟨w.heap.size, 0, none⟩ = some (.int .i64 0) := HD.out w4 k4 0
  have e1 : w4.cell? ⟨w.heap.size, 1, none⟩ = some (.int .i64 fr) := HD.out w4 k4 1
  have e3 : w4.cell? ⟨w.heap.size, 3, none⟩ = some (.slice ta tn tc) := HD.out w4 k4 3
  have HPUT := hide (rput_any a n c l i i ta tn tc zs w4 (HROWL.out.below HKW4.out) (HROW.out.below HKW4.out) (Nat.le_refl _) (by omega) (by omega) (by omega))
  rw [← hfi] at HPUT
  have HR4 := hide hr4
  have HL4 := hide hl4
  have HFI := hide hfi
  clear hr4 hl4 hb4 k4 hfi d0 d1
  go_wp2_with fail
  refine HPUT.out.mono ?_
  rintro r w5 ⟨a5, c5, rfl, hr5, hb5⟩
  have HR5 := hide hr5
  have HB5 := hide hb5
  clear hr5 hb5
  go_wp2_with fail
  go_ret3
  refine ⟨KO.on HKW4.out HB5.out, .inr ⟨⟨b4, t4, a5, i + tn + (n - i), c5, l.take i ++ zs ++ l.drop i⟩, rfl, ⟨HR4.out.below HB5.out, HR5.out, put_wf HWFL.out HWF.out i i, ?_⟩, ?_⟩⟩
  · have h1 := HL4.out
    rw [HFI.out, Int.toNat_natCast, HLI.out] at h1
    exact h1
  · show i + tn + (n - i) ≤ 1500 + M
    have := HFI.out; omega
theorem play_0i (w : World) (rb lb rc lc j : Nat) (hrc : j + 1 ≤ rc) (hlc : j + 1 ≤ lc) (hj : j ≤ 64) (e : Ent) (he : e.ok w) (hen : e.n ≤ 1500) (M : Nat) (hM : 200 ≤ M)
    (cr : w.cell? ⟨rb, j, none⟩ = some (.pointer (some ⟨e.b, 0, none⟩))) (cl : w.cell? ⟨lb, j, none⟩ = some (.slice e.a e.n e.c))
    (fr tu : Int) (ta : Option Addr) (tn tc : Nat) (zs : List Int) (hrow : Row .i32 w ta tn tc zs) (hwf : ∀ x ∈ zs, (Lit.int .i32 x).wf = true) (htn : tn ≤ 200) (h1 : ¬ (0 ≤ fr ∧ fr ≤ fr ∧ fr ≤ (e.n : Int))) :
    Calls Try.prog 12 #[.slice (some ⟨rb, 0, none⟩) (j + 1) rc, .slice (some ⟨lb, 0, none⟩) (j + 1) lc, .agg #[.int .i64 0, .int .i64 fr, .int .i64 tu, .slice ta tn tc]] w (Played M w) := by
  obtain ⟨b, t, a, n, c, l⟩ := e
  have hsz := he.size
  obtain ⟨hr, hrowl, hwfl, hl⟩ := he
  dsimp only at hr hrowl hwfl hl hsz hen cr cl h1
  obtain ⟨V, hV⟩ : ∃ V, w.alloc (.cells #[.int .i64 0, .int .i64 fr, .int .i64 tu, .slice ta tn tc] 30) = V := ⟨_, rfl⟩
  have hkV : KO w V := by rw [← hV]; exact KO.alloc (KO.refl _) _
  have hVs : w.heap.size < V.heap.size := by rw [← hV]; simp
  have cV : ∀ j, V.cell? ⟨w.heap.size, j, none⟩ = (#[.int .i64 0, .int .i64 fr, .int .i64 tu, .slice ta tn tc] : Array Value)[j]? := fun j => by rw [← hV, World.cell?_alloc_mark]
  have crV : V.cell? ⟨rb, j, none⟩ = some (.pointer (some ⟨b, 0, none⟩)) := (Below.cell hkV (by simpa using World.block_lt_of_cell? w _ cr)).trans cr
  have clV : V.cell? ⟨lb, j, none⟩ = some (.slice a n c) := (Below.cell hkV (by simpa using World.block_lt_of_cell? w _ cl)).trans cl
  obtain ⟨i32, hi32, hz0, hz1, hz2⟩ := own32 w
  have HI : Hid (Try.prog.info? 21 = some i32) := hi32
  have HZ0 := hide hz0
  have HZ1 := hide hz1
  have HZ2 := hide hz2
  have HR := hide hr
  have HROWL := hide hrowl
  have HWFL := hide hwfl
  have HLI := hide hl
  have HSZ := hide hsz
  have HROW := hide hrow
  have HWF := hide hwf
  have HKV := hide hkV
  have HCV := hide cV
  have HVS := hide hVs
  have ej : (j : Int) < (j : Int) + 1 := by omega
  clear hr hrowl hwfl hl hsz hrow hwf hkV cV hVs cr cl hi32 hz0 hz1 hz2
  go_enter Try.func12, Try.ntmps12
  go_wp2_with fail
  go_quiet (fail)
  rename_i nq
  obtain ⟨V2, hV2⟩ : ∃ V2, V.drewN nq = V2 := ⟨_, rfl⟩
  have hkV2 : KO V V2 := by rw [← hV2]; exact keepN _ _
  rw [hV2]
  have hV2s : w.heap.size < V2.heap.size := Nat.lt_of_lt_of_le HVS.out (Below.size hkV2)
  have d3 : V2.cell? ⟨w.heap.size, 3, none⟩ = some (.slice ta tn tc) := (Below.cell hkV2 (by exact HVS.out)).trans (HCV.out 3)
  have d3a : ∀ o : Obj, (V2.alloc o).cell? ⟨w.heap.size, 3, none⟩ = some (.slice ta tn tc) := fun o => (World.cell?_alloc_past _ _ _ (by exact hV2s)).trans d3
  have HK2 := hide (KO.on HKV.out hkV2)
  have HKA := hide (show KO V2 (V2.alloc (.cells #[] 21)) from KO.alloc (KO.refl _) _)
  have HD := hide (fun w' (hk : KO V2 w') (q : Nat) => (Below.cell (p := ⟨w.heap.size, q, none⟩) hk (by exact hV2s)).trans ((Below.cell (p := ⟨w.heap.size, q, none⟩) hkV2 (by exact HVS.out)).trans (HCV.out q)))
  clear hV2 hkV2 hV crV clV
  go_wp2_with (at_builtin; refine wpList_append_row _ rfl (.tmp 30) (.tmp 32) 22 rfl V2.heap.size 21 i32 (.int .i32 0) 4 Try.underlying22 HI.out HZ0.out HZ1.out HZ2.out rfl _ 0 [] rfl (owns_empty V2 21 V2.heap.size rfl) .i32 ta tn tc zs rfl ((HROW.out.below HK2.out).below HKA.out) (by omega) (by omega) (by simp) ?_; intro v3 w3 ho3 hb3; have hk3 : KO V2 w3 := Below.trans HKA.out hb3; have d0 : w3.cell? ⟨w.heap.size, 0, none⟩ = some (.int .i64 0) := HD.out w3 hk3 0; have d1 : w3.cell? ⟨w.heap.size, 1, none⟩ = some (.int .i64 fr) := HD.out w3 hk3 1)
  rw [List.nil_append, Nat.zero_add] at ho3
  have HO3 := hide ho3
  have HK3 := hide hk3
  have HKW3 := hide (KO.on HK2.out hk3)
  clear d3 d3a hb3 hk3 ho3
  obtain ⟨a3, c3, rfl, hr3⟩ := row_of_owns HO3.out
  have HR3 := hide hr3
  clear hr3
  refine (wrong_no a n c fr fr w3 (by omega)).mono ?_
  rintro r w' ⟨rfl, rfl⟩
  go_wp2_with fail
  refine (Insert_bad b t fr _ w3 (HR.out.below HKW3.out) (by have := HSZ.out; omega)).mono ?_
  rintro r w' ⟨rfl, rfl⟩
  go_wp2_with fail
  go_ret3
  exact ⟨HKW3.out, .inl rfl⟩
theorem play_1v (w : World) (rb lb rc lc j : Nat) (hrc : j + 1 ≤ rc) (hlc : j + 1 ≤ lc) (hj : j ≤ 64) (e : Ent) (he : e.ok w) (hen : e.n ≤ 1500) (M : Nat) (hM : 200 ≤ M)
    (cr : w.cell? ⟨rb, j, none⟩ = some (.pointer (some ⟨e.b, 0, none⟩))) (cl : w.cell? ⟨lb, j, none⟩ = some (.slice e.a e.n e.c))
    (fr tu : Int) (ta : Option Addr) (tn tc : Nat) (zs : List Int) (hrow : Row .i32 w ta tn tc zs) (hwf : ∀ x ∈ zs, (Lit.int .i32 x).wf = true) (htn : tn ≤ 200) (h1 : 0 ≤ fr) (h2 : fr ≤ tu) (h3 : tu ≤ (e.n : Int)) :
    Calls Try.prog 12 #[.slice (some ⟨rb, 0, none⟩) (j + 1) rc, .slice (some ⟨lb, 0, none⟩) (j + 1) lc, .agg #[.int .i64 1, .int .i64 fr, .int .i64 tu, .slice ta tn tc]] w (Played M w) := by
  obtain ⟨b, t, a, n, c, l⟩ := e
  have hsz := he.size
  obtain ⟨hr, hrowl, hwfl, hl⟩ := he
  dsimp only at hr hrowl hwfl hl hsz hen cr cl h3
  obtain ⟨V, hV⟩ : ∃ V, w.alloc (.cells #[.int .i64 1, .int .i64 fr, .int .i64 tu, .slice ta tn tc] 30) = V := ⟨_, rfl⟩
  have hkV : KO w V := by rw [← hV]; exact KO.alloc (KO.refl _) _
  have hVs : w.heap.size < V.heap.size := by rw [← hV]; simp
  have cV : ∀ j, V.cell? ⟨w.heap.size, j, none⟩ = (#[.int .i64 1, .int .i64 fr, .int .i64 tu, .slice ta tn tc] : Array Value)[j]? := fun j => by rw [← hV, World.cell?_alloc_mark]
  have crV : V.cell? ⟨rb, j, none⟩ = some (.pointer (some ⟨b, 0, none⟩)) := (Below.cell hkV (by simpa using World.block_lt_of_cell? w _ cr)).trans cr
  have clV : V.cell? ⟨lb, j, none⟩ = some (.slice a n c) := (Below.cell hkV (by simpa using World.block_lt_of_cell? w _ cl)).trans cl
  obtain ⟨i32, hi32, hz0, hz1, hz2⟩ := own32 w
  have HI : Hid (Try.prog.info? 21 = some i32) := hi32
  have HZ0 := hide hz0
  have HZ1 := hide hz1
  have HZ2 := hide hz2
  have HR := hide hr
  have HROWL := hide hrowl
  have HWFL := hide hwfl
  have HLI := hide hl
  have HSZ := hide hsz
  have HROW := hide hrow
  have HWF := hide hwf
  have HKV := hide hkV
  have HCV := hide cV
  have HVS := hide hVs
  have ej : (j : Int) < (j : Int) + 1 := by omega
  clear hr hrowl hwfl hl hsz hrow hwf hkV cV hVs cr cl hi32 hz0 hz1 hz2
  go_enter Try.func12, Try.ntmps12
  go_wp2_with fail
  go_quiet (fail)
  rename_i nq
  obtain ⟨V2, hV2⟩ : ∃ V2, V.drewN nq = V2 := ⟨_, rfl⟩
  have hkV2 : KO V V2 := by rw [← hV2]; exact keepN _ _
  rw [hV2]
  have hV2s : w.heap.size < V2.heap.size := Nat.lt_of_lt_of_le HVS.out (Below.size hkV2)
  have d3 : V2.cell? ⟨w.heap.size, 3, none⟩ = some (.slice ta tn tc) := (Below.cell hkV2 (by exact HVS.out)).trans (HCV.out 3)
  have d3a : ∀ o : Obj, (V2.alloc o).cell? ⟨w.heap.size, 3, none⟩ = some (.slice ta tn tc) := fun o => (World.cell?_alloc_past _ _ _ (by exact hV2s)).trans d3
  have HK2 := hide (KO.on HKV.out hkV2)
  have HKA := hide (show KO V2 (V2.alloc (.cells #[] 21)) from KO.alloc (KO.refl _) _)
  have HD := hide (fun w' (hk : KO V2 w') (q : Nat) => (Below.cell (p := ⟨w.heap.size, q, none⟩) hk (by exact hV2s)).trans ((Below.cell (p := ⟨w.heap.size, q, none⟩) hkV2 (by exact HVS.out)).trans (HCV.out q)))
  clear hV2 hkV2 hV crV clV
  go_wp2_with (at_builtin; refine wpList_append_row _ rfl (.tmp 30) (.tmp 32) 22 rfl V2.heap.size 21 i32 (.int .i32 0) 4 Try.underlying22 HI.out HZ0.out HZ1.out HZ2.out rfl _ 0 [] rfl (owns_empty V2 21 V2.heap.size rfl) .i32 ta tn tc zs rfl ((HROW.out.below HK2.out).below HKA.out) (by omega) (by omega) (by simp) ?_; intro v3 w3 ho3 hb3; have hk3 : KO V2 w3 := Below.trans HKA.out hb3; have d0 : w3.cell? ⟨w.heap.size, 0, none⟩ = some (.int .i64 1) := HD.out w3 hk3 0; have d1 : w3.cell? ⟨w.heap.size, 1, none⟩ = some (.int .i64 fr) := HD.out w3 hk3 1)
  rw [List.nil_append, Nat.zero_add] at ho3
  have HO3 := hide ho3
  have HK3 := hide hk3
  have HKW3 := hide (KO.on HK2.out hk3)
  clear d3 d3a hb3 hk3 ho3
  obtain ⟨a3, c3, rfl, hr3⟩ := row_of_owns HO3.out
  have HR3 := hide hr3
  clear hr3
  obtain ⟨v0, hv0⟩ : ∃ v0 : Int, Calls Try.prog 37 #[.slice a n c, .int .i64 fr, .int .i64 fr] w3 fun r w' => r = .returned (.int .i64 v0) ∧ w3 = w' := by
    by_cases hh : 0 ≤ fr ∧ fr ≤ fr ∧ fr ≤ (n : Int)
    · exact ⟨0, wrong_ok a n c fr fr w3 hh.1 hh.2.1 hh.2.2⟩
    · exact ⟨4, wrong_no a n c fr fr w3 hh⟩
  have HV0 := hide hv0
  clear hv0
  refine HV0.out.mono ?_
  rintro r w' ⟨rfl, rfl⟩
  have d2 : w3.cell? ⟨w.heap.size, 2, none⟩ = some (.int .i64 tu) := HD.out w3 HK3.out 2
  go_wp2_with fail
  obtain ⟨i, hfi⟩ : ∃ i : Nat, fr = (i : Int) := ⟨fr.toNat, by omega⟩
  obtain ⟨k, htk⟩ : ∃ k : Nat, tu = (k : Int) := ⟨tu.toNat, by omega⟩
  refine (Delete_ok b t fr tu w3 (HR.out.below HKW3.out) (by omega) (by omega) (by have := HSZ.out; omega) (by have := HSZ.out; omega)).mono ?_
  rintro r w4 ⟨b4, t4, rfl, hr4, hl4, hb4⟩
  have k4 := KO.on HK3.out hb4
  have HKW4 := hide (KO.on HKW3.out hb4)
  have e0 : w4.cell? ⟨w.heap.size, 0, none⟩ = some (.int .i64 1) := HD.out w4 k4 0
  have e1 : w4.cell? ⟨w.heap.size, 1, none⟩ = some (.int .i64 fr) := HD.out w4 k4 1
  have e2 : w4.cell? ⟨w.heap.size, 2, none⟩ = some (.int .i64 tu) := HD.out w4 k4 2
  have HPUT := hide (rput_any a n c l i k none 0 0 [] w4 (HROWL.out.below HKW4.out) (row_nil .i32 w4) (by omega) (by omega) (by omega) (by omega))
  rw [← hfi, ← htk] at HPUT
  have HR4 := hide hr4
  have HL4 := hide hl4
  have HFI := hide hfi
  have HTK := hide htk
  clear hr4 hl4 hb4 k4 hfi htk d0 d1 d2
  go_wp2_with (go_at_call 37; refine (wrong_ok a n c fr tu w4 (by omega) (by omega) (by omega)).mono ?_; rintro r w' ⟨rfl, rfl⟩)
  refine HPUT.out.mono ?_
  rintro r w5 ⟨a5, c5, rfl, hr5, hb5⟩
  have HR5 := hide hr5
  have HB5 := hide hb5
  clear hr5 hb5
  go_wp2_with fail
  go_ret3
  refine ⟨KO.on HKW4.out HB5.out, .inr ⟨⟨b4, t4, a5, i + 0 + (n - k), c5, l.take i ++ [] ++ l.drop k⟩, rfl, ⟨HR4.out.below HB5.out, HR5.out, put_wf HWFL.out (by simp) i k, ?_⟩, ?_⟩⟩
  · have h1 := HL4.out
    rw [HFI.out, HTK.out, Int.toNat_natCast, Int.toNat_natCast, HLI.out] at h1
    rw [List.append_nil]
    exact h1
  · show i + 0 + (n - k) ≤ 1500 + M
    have := HFI.out; have := HTK.out; omega
theorem play_1i (w : World) (rb lb rc lc j : Nat) (hrc : j + 1 ≤ rc) (hlc : j + 1 ≤ lc) (hj : j ≤ 64) (e : Ent) (he : e.ok w) (hen : e.n ≤ 1500) (M : Nat) (hM : 200 ≤ M)
    (cr : w.cell? ⟨rb, j, none⟩ = some (.pointer (some ⟨e.b, 0, none⟩))) (cl : w.cell? ⟨lb, j, none⟩ = some (.slice e.a e.n e.c))
    (fr tu : Int) (ta : Option Addr) (tn tc : Nat) (zs : List Int) (hrow : Row .i32 w ta tn tc zs) (hwf : ∀ x ∈ zs, (Lit.int .i32 x).wf = true) (htn : tn ≤ 200) (h1 : ¬ (0 ≤ fr ∧ fr ≤ tu ∧ tu ≤ (e.n : Int))) :
    Calls Try.prog 12 #[.slice (some ⟨rb, 0, none⟩) (j + 1) rc, .slice (some ⟨lb, 0, none⟩) (j + 1) lc, .agg #[.int .i64 1, .int .i64 fr, .int .i64 tu, .slice ta tn tc]] w (Played M w) := by
  obtain ⟨b, t, a, n, c, l⟩ := e
  have hsz := he.size
  obtain ⟨hr, hrowl, hwfl, hl⟩ := he
  dsimp only at hr hrowl hwfl hl hsz hen cr cl h1
  obtain ⟨V, hV⟩ : ∃ V, w.alloc (.cells #[.int .i64 1, .int .i64 fr, .int .i64 tu, .slice ta tn tc] 30) = V := ⟨_, rfl⟩
  have hkV : KO w V := by rw [← hV]; exact KO.alloc (KO.refl _) _
  have hVs : w.heap.size < V.heap.size := by rw [← hV]; simp
  have cV : ∀ j, V.cell? ⟨w.heap.size, j, none⟩ = (#[.int .i64 1, .int .i64 fr, .int .i64 tu, .slice ta tn tc] : Array Value)[j]? := fun j => by rw [← hV, World.cell?_alloc_mark]
  have crV : V.cell? ⟨rb, j, none⟩ = some (.pointer (some ⟨b, 0, none⟩)) := (Below.cell hkV (by simpa using World.block_lt_of_cell? w _ cr)).trans cr
  have clV : V.cell? ⟨lb, j, none⟩ = some (.slice a n c) := (Below.cell hkV (by simpa using World.block_lt_of_cell? w _ cl)).trans cl
  obtain ⟨i32, hi32, hz0, hz1, hz2⟩ := own32 w
  have HI : Hid (Try.prog.info? 21 = some i32) := hi32
  have HZ0 := hide hz0
  have HZ1 := hide hz1
  have HZ2 := hide hz2
  have HR := hide hr
  have HROWL := hide hrowl
  have HWFL := hide hwfl
  have HLI := hide hl
  have HSZ := hide hsz
  have HROW := hide hrow
  have HWF := hide hwf
  have HKV := hide hkV
  have HCV := hide cV
  have HVS := hide hVs
  have ej : (j : Int) < (j : Int) + 1 := by omega
  clear hr hrowl hwfl hl hsz hrow hwf hkV cV hVs cr cl hi32 hz0 hz1 hz2
  go_enter Try.func12, Try.ntmps12
  go_wp2_with fail
  go_quiet (fail)
  rename_i nq
  obtain ⟨V2, hV2⟩ : ∃ V2, V.drewN nq = V2 := ⟨_, rfl⟩
  have hkV2 : KO V V2 := by rw [← hV2]; exact keepN _ _
  rw [hV2]
  have hV2s : w.heap.size < V2.heap.size := Nat.lt_of_lt_of_le HVS.out (Below.size hkV2)
  have d3 : V2.cell? ⟨w.heap.size, 3, none⟩ = some (.slice ta tn tc) := (Below.cell hkV2 (by exact HVS.out)).trans (HCV.out 3)
  have d3a : ∀ o : Obj, (V2.alloc o).cell? ⟨w.heap.size, 3, none⟩ = some (.slice ta tn tc) := fun o => (World.cell?_alloc_past _ _ _ (by exact hV2s)).trans d3
  have HK2 := hide (KO.on HKV.out hkV2)
  have HKA := hide (show KO V2 (V2.alloc (.cells #[] 21)) from KO.alloc (KO.refl _) _)
  have HD := hide (fun w' (hk : KO V2 w') (q : Nat) => (Below.cell (p := ⟨w.heap.size, q, none⟩) hk (by exact hV2s)).trans ((Below.cell (p := ⟨w.heap.size, q, none⟩) hkV2 (by exact HVS.out)).trans (HCV.out q)))
  clear hV2 hkV2 hV crV clV
  go_wp2_with (at_builtin; refine wpList_append_row _ rfl (.tmp 30) (.tmp 32) 22 rfl V2.heap.size 21 i32 (.int .i32 0) 4 Try.underlying22 HI.out HZ0.out HZ1.out HZ2.out rfl _ 0 [] rfl (owns_empty V2 21 V2.heap.size rfl) .i32 ta tn tc zs rfl ((HROW.out.below HK2.out).below HKA.out) (by omega) (by omega) (by simp) ?_; intro v3 w3 ho3 hb3; have hk3 : KO V2 w3 := Below.trans HKA.out hb3; have d0 : w3.cell? ⟨w.heap.size, 0, none⟩ = some (.int .i64 1) := HD.out w3 hk3 0; have d1 : w3.cell? ⟨w.heap.size, 1, none⟩ = some (.int .i64 fr) := HD.out w3 hk3 1)
  rw [List.nil_append, Nat.zero_add] at ho3
  have HO3 := hide ho3
  have HK3 := hide hk3
  have HKW3 := hide (KO.on HK2.out hk3)
  clear d3 d3a hb3 hk3 ho3
  obtain ⟨a3, c3, rfl, hr3⟩ := row_of_owns HO3.out
  have HR3 := hide hr3
  clear hr3
  obtain ⟨v0, hv0⟩ : ∃ v0 : Int, Calls Try.prog 37 #[.slice a n c, .int .i64 fr, .int .i64 fr] w3 fun r w' => r = .returned (.int .i64 v0) ∧ w3 = w' := by
    by_cases hh : 0 ≤ fr ∧ fr ≤ fr ∧ fr ≤ (n : Int)
    · exact ⟨0, wrong_ok a n c fr fr w3 hh.1 hh.2.1 hh.2.2⟩
    · exact ⟨4, wrong_no a n c fr fr w3 hh⟩
  have HV0 := hide hv0
  clear hv0
  refine HV0.out.mono ?_
  rintro r w' ⟨rfl, rfl⟩
  have d2 : w3.cell? ⟨w.heap.size, 2, none⟩ = some (.int .i64 tu) := HD.out w3 HK3.out 2
  go_wp2_with fail
  refine (Delete_bad b t fr tu w3 (HR.out.below HKW3.out) (by have := HSZ.out; omega)).mono ?_
  rintro r w' ⟨rfl, rfl⟩
  go_wp2_with (go_at_call 37; refine (wrong_no a n c fr tu w3 (by omega)).mono ?_; rintro r w' ⟨rfl, rfl⟩)
  go_ret3
  exact ⟨HKW3.out, .inl rfl⟩
end Go.Proofs.Yteiljaecaahonaa
