/- The program's disk: New, Spoil. -/
import Derived.Test.YthhfgcpflclflaaPd17
import Derived.Test.YthhfgcpflclflaaNew
namespace Go.Proofs.Ythhfgcpflclflaa
open Go.RowKit
set_option linter.unusedVariables false
set_option maxHeartbeats 1000000
set_option maxRecDepth 100000
theorem sectorInfo17 : (Try.prog.info? 75).map (fun i => (i.zero, i.size, i.bytes)) = some (some (.agg (Array.replicate 64 (.int .u8 0))), 64, 64) := by kernel_rfl
theorem pwriteInfo17 : (Try.prog.info? 82).map (fun i => (i.zero, i.size, i.bytes)) = some (some (.agg (#[.int .i64 0] ++ Array.replicate 64 (.int .u8 0))), 65, 72) := by kernel_rfl
theorem build_pdisk17 (a : Option Addr) (n c : Nat) (w : World) : (Instr.build 42 #[(0, .slice a n c)]).run Try.prog w = .ok (.agg #[.slice a n c, .slice none 0 0, .int .i64 0, .bool false, .int .i64 0]) w := run_build w 42 _ _ (by kernel_rfl)
theorem made_rep (n k : Nat) (hk : 0 < k) (v : Value) : (madeCells (Array.replicate k v) (n * k)).toList = List.replicate (n * k) v := by
  apply List.ext_getElem?
  intro j
  by_cases hj : j < n * k
  · have hm : j % k < k := Nat.mod_lt _ hk
    simp [madeCells, hj, hm]
  · simp [madeCells, hj]
theorem lv_rep (n k : Nat) (v : Int) : lv (List.replicate n (List.replicate k v)) = List.replicate (n * k) (.int .u8 v) := by
  induction n with
  | zero => simp [lv]
  | succ n ih =>
    rw [List.replicate_succ, lv, List.flatMap_cons, ← lv, ih, uv, List.map_replicate, List.replicate_append_replicate, Nat.succ_mul, Nat.add_comm]
theorem made_lies (n : Nat) : (madeCells (Array.replicate 64 (Value.int .u8 0)) (n * 64)).toList = lv (List.replicate n (List.replicate 64 0)) := by
  rw [made_rep n 64 (by omega), lv_rep]
theorem pnew_bad (w : World) (n : Int) (h : n < 1 ∨ 4096 < n) : Calls Try.prog 9 #[.int .i64 n] w fun e w' => e = .returned (.tuple #[.pointer none, .int .i64 2]) ∧ w = w' := by
  by_cases h1 : n < 1
  · go_enter Try.func9, Try.ntmps9
    go_wp2
    go_ret2
    exact ⟨rfl, rfl⟩
  · have h2 : 4096 < n := by omega
    go_enter Try.func9, Try.ntmps9
    go_wp2
    go_ret2
    exact ⟨rfl, rfl⟩
theorem pnew_ok (w : World) (n : Nat) (h0 : 1 ≤ n) (h1 : n ≤ 4096) :
    Calls Try.prog 9 #[.int .i64 (n : Int)] w fun e w' => ∃ g gl cl, e = .returned (.tuple #[.pointer (some ⟨g, 0, none⟩), .int .i64 0]) ∧ PD17 w' g gl cl (.slice none 0 0) (Dk.NW n) ∧ KO w w' ∧ w.heap.size ≤ g ∧ w.heap.size ≤ gl := by
  have i1 : ¬ (n : Int) < 1 := by omega
  have i2 : ¬ (4096 : Int) < (n : Int) := by omega
  have hbd := build_pdisk17
  obtain ⟨ii, hii, hy0, hy1, hy2⟩ := info_parts sectorInfo17
  have HII : Hid (Try.prog.info? 75 = some ii) := hii
  have HY0 := hide hy0
  have HY1 := hide hy1
  have HY2 := hide hy2
  clear hii hy0 hy1 hy2
  go_enter Try.func9, Try.ntmps9
  go_wp2_with (at_make; refine wpList_make_full _ rfl _ _ 39 rfl w.heap.size 75 ii _ 64 Try.underlying39 HII.out HY0.out HY1.out _ _ _ _ n rfl rfl rfl rfl ?b2 ?b3 (Nat.le_refl _) ?_)
  case b2 => rw [HY2.out]; omega
  case b3 => unfold maxLen; omega
  intro w1 hown hgrow
  have hbel := (Below.refl w.heap.size w).grown hgrow (Nat.le_refl _) (fun _ h => by cases h)
  rw [made_lies] at hown
  have HO := hide hown
  have HB := hide hbel
  clear hown hgrow hbel
  go_wp2
  go_ret2
  have hs := HB.out.size
  refine ⟨_, _, n, rfl, ⟨?_, ?_, World.ownsRow_nil _ _ _ _, Dk.NW_wf h0⟩, Below.alloc HB.out hs _, hs, Nat.le_refl _⟩
  · rw [World.alloc_heap_new]
    simp [Dk.NW, sb, sl]
  · have := owns_mono (HO.out.alloc (.cells #[.slice (some ⟨w.heap.size, 0, none⟩) n n, .slice none 0 0, .int .i64 0, .bool false, .int .i64 0] 42)) (Nat.zero_le _)
    simpa [Dk.NW] using this
theorem lv_byte {ls : List (List Int)} (hf : ∀ x ∈ ls, (uv x).length = 64) {n a : Nat} {b : Int} (hn : n < ls.length) (ha : a < 64) : (lv ls).set (n * 64 + a) (.int .u8 b) = lv (ls.set n ((ls.getD n []).set a b)) := by
  have h0 := hf _ (Dk.lie_at hn)
  have hx : (uv ((ls.getD n []).set a b)).length = 64 := by rw [uv_len] at h0 ⊢; rw [List.length_set]; exact h0
  have hl := fm_len hf
  unfold lv
  rw [← fm_set hf hx hn]
  apply List.ext_getElem?
  intro j
  rw [sets_get, hx, hl, List.getElem?_set, hl]
  by_cases h1 : n * 64 ≤ j ∧ j < n * 64 + 64 ∧ j < ls.length * 64
  · rw [if_pos h1]
    obtain ⟨k, hk⟩ : ∃ k, j = n * 64 + k := ⟨j - n * 64, by omega⟩
    subst hk
    have hk : k < 64 := by omega
    rw [fm_at (d := []) hf hn hk, show n * 64 + k - n * 64 = k from by omega]
    have hkl : k < (ls.getD n []).length := by rw [uv_len] at h0; omega
    unfold uv
    rw [List.map_set, List.getElem?_set, List.length_map]
    by_cases e : a = k
    · subst e
      rw [if_pos rfl, if_pos (by omega), if_pos rfl, if_pos hkl]
    · rw [if_neg (by omega), if_neg e]
  · rw [if_neg h1, if_neg (by omega)]
theorem PD17.spoil' {w : World} {g gl cl : Nat} {vw : Value} {d : Dk.Ds} (h : PD17 w g gl cl vw d) (n a : Nat) (b : Int) (hn : n < d.lies.length) (ha : a < 64) (hb : 0 ≤ b ∧ b ≤ 255) : PD17 (w.setCell ⟨gl, n * 64 + a, none⟩ (.int .u8 b)) g gl cl vw { d with lies := d.lies.set n ((d.lies.getD n []).set a b) } := by
  have hm := Mod.one w gl (n * 64 + a) (.int .u8 b)
  have h0 := h.wf.lies _ (Dk.lie_at hn)
  refine ⟨?_, ?_, hm.owns h.waits fun k hk q => h.ne3 (by rw [hk, q]), ?_⟩
  · show _ = some (Obj.cells #[.slice (some ⟨gl, 0, none⟩) (d.lies.set _ _).length cl, vw, _, _, _] _ _)
    rw [List.length_set]
    exact (hm.block g (Array.getElem?_eq_some_iff.1 h.disk).1 (fun q => h.ne1 q.symm)).trans h.disk
  · show World.ownsRow _ 0 _ 64 (.slice (some ⟨gl, 0, none⟩) (d.lies.set _ _).length cl) (d.lies.set _ _).length (lv (d.lies.set _ _))
    rw [List.length_set, ← lv_byte (lies_len h.wf) hn ha]
    exact (h.lies.stored _ _).1
  · have := Dk.SP_wf (n := (n : Int)) (a := (a : Int)) h.wf hb
    unfold Dk.SP at this
    rw [if_neg (by unfold Dk.has; omega)] at this
    simpa using this
theorem pspoil_any (w : World) (g gl cl : Nat) (vw : Value) (d : Dk.Ds) (n a b : Int) (h : PD17 w g gl cl vw d) (hb : 0 ≤ b ∧ b ≤ 255) :
    Calls Try.prog 20 #[.pointer (some ⟨g, 0, none⟩), .int .i64 n, .int .i64 a, .int .u8 b] w fun e w' => e = .returned (.int .i64 (Dk.SP d n a b).2) ∧ PD17 w' g gl cl vw (Dk.SP d n a b).1 ∧ Mod (fun k => k = gl) w w' := by
  have HI := hide (fun r hr => phas_any w g gl cl vw d n h r hr)
  by_cases hn : Dk.has d n
  · have HI1 := hide (HI.out 0 (by rw [if_pos hn]))
    by_cases h1 : a < 0
    · have e : Dk.SP d n a b = (d, 4) := by unfold Dk.SP; rw [if_pos (.inr (.inl h1))]
      rw [e]
      have H := hide h
      clear h HI hn e
      go_enter Try.func20, Try.ntmps20
      go_wp2_with fail
      refine HI1.out.mono ?_
      rintro e w1 ⟨rfl, rfl⟩
      go_wp2
      go_ret
      exact ⟨rfl, H.out, Mod.refl _ _⟩
    · by_cases h2 : 64 ≤ a
      · have e : Dk.SP d n a b = (d, 4) := by unfold Dk.SP; rw [if_pos (.inr (.inr h2))]
        rw [e]
        have H := hide h
        clear h HI hn e
        go_enter Try.func20, Try.ntmps20
        go_wp2_with fail
        refine HI1.out.mono ?_
        rintro e w1 ⟨rfl, rfl⟩
        go_wp2
        go_ret
        exact ⟨rfl, H.out, Mod.refl _ _⟩
      · have e : Dk.SP d n a b = ({ d with lies := d.lies.set n.toNat ((d.lies.getD n.toNat []).set a.toNat b) }, 0) := by
          unfold Dk.SP; rw [if_neg (by rintro (q | q | q); exact q hn; exact h1 q; exact h2 q)]
        obtain ⟨k, rfl⟩ : ∃ k : Nat, n = (k : Int) := ⟨n.toNat, by unfold Dk.has at hn; omega⟩
        obtain ⟨j, rfl⟩ : ∃ j : Nat, a = (j : Int) := ⟨a.toNat, by omega⟩
        have hk : k < d.lies.length := by unfold Dk.has at hn; omega
        have hki : (k : Int) < (d.lies.length : Int) := by omega
        have hj : j < 64 := by omega
        have hji : (j : Int) < 64 := by omega
        obtain ⟨c0, _⟩ := h.cells
        have hth := h.may hk j hj
        obtain ⟨u, hu⟩ := Option.isSome_iff_exists.1 hth.1
        have fu := hth.2
        rw [e, Int.toNat_natCast, Int.toNat_natCast]
        have H := hide (h.spoil' k j b hk hj hb)
        have HM := hide (Mod.one w gl (k * 64 + j) (.int .u8 b))
        clear h HI hn e hth
        generalize d.lies.length = nl at *
        go_enter Try.func20, Try.ntmps20
        go_wp2_with fail
        refine HI1.out.mono ?_
        rintro e w1 ⟨rfl, rfl⟩
        go_wp2
        go_ret
        exact ⟨rfl, H.out, HM.out⟩
  · have HI1 := hide (HI.out 4 (by rw [if_neg hn]))
    have e : Dk.SP d n a b = (d, 4) := by unfold Dk.SP; rw [if_pos (.inl hn)]
    rw [e]
    have H := hide h
    clear h HI hn e
    go_enter Try.func20, Try.ntmps20
    go_wp2_with fail
    refine HI1.out.mono ?_
    rintro e w1 ⟨rfl, rfl⟩
    go_wp2
    go_ret
    exact ⟨rfl, H.out, Mod.refl _ _⟩
end Go.Proofs.Ythhfgcpflclflaa
