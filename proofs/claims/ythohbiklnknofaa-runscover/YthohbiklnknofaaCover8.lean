/- RunsCover: each place that is kept lies in one sequence. -/
import Derived.Test.YthohbiklnknofaaSides8
import Derived.Test.YthohbiklnknofaaCovm
namespace Go.Proofs.Ythohbiklnknofaa
open Go.RowKit Go.Maps
set_option linter.unusedVariables false
set_option maxHeartbeats 1000000
set_option maxRecDepth 100000
structure CV (W : World) (n : Nat) (l : List Nat) (wr : World) : Prop where
  own : wr.ownsRow W.heap.size 3 1 (.slice (some ⟨W.heap.size, 0, none⟩) n n) n ((Rn.CL n l).map (Value.int .i64))
  bel : Below W.heap.size W wr
theorem CV.drewN {W : World} {n : Nat} {l : List Nat} {wr : World} (h : CV W n l wr) (q : Nat) : CV W n l (wr.drewN q) := ⟨owns_below h.own (below_drewN wr q), KO.on h.bel (below_drewN wr q)⟩
theorem CV.alloc {W : World} {n : Nat} {l : List Nat} {wr : World} (h : CV W n l wr) (o : Obj) : CV W n l (wr.alloc o) := ⟨h.own.alloc o, h.bel.alloc h.bel.size o⟩
theorem CV.put {W : World} {n : Nat} {l : List Nat} {wr : World} (h : CV W n l wr) (x : Nat) : CV W n (l ++ [x]) (wr.setCell ⟨W.heap.size, x, none⟩ (.int .i64 ((l.count x : Int) + 1))) :=
  ⟨by rw [Rn.CL_snoc]; exact owns_set h.own x _, h.bel.setCell (p := ⟨W.heap.size, x, none⟩) (Nat.le_refl _) _⟩
theorem CV.cell {W : World} {n : Nat} {l : List Nat} {wr : World} (h : CV W n l wr) {x : Nat} (hx : x < n) : wr.cell? ⟨W.heap.size, x, none⟩ = some (.int .i64 (l.count x : Int)) ∧ wr.frozen? ⟨W.heap.size, x, none⟩ = false := by
  have := owns_cell h.own x hx
  rw [Rn.CL_at n l x hx] at this
  exact ⟨this, h.own.frozenAt x⟩
theorem take_places (ss : List Rn.Sq) (j : Nat) (h : j < ss.length) : (ss.take (j + 1)).flatMap Rn.Sq.places = (ss.take j).flatMap Rn.Sq.places ++ (ss.getD j default).places := by
  rw [List.take_succ_eq_append_getElem h, List.flatMap_append]
  simp [List.getD, h]
theorem getD_take_snoc (ps : List Nat) (k : Nat) (h : k < ps.length) : ps.take (k + 1) = ps.take k ++ [ps.getD k 0] := by
  rw [List.take_succ_eq_append_getElem h]; simp [List.getD, h]
theorem RunsCover_walk (w : World) (a0 : Option Addr) (n0 cap0 : Nat) (c : List Int) (h0 : Row .i64 w a0 n0 cap0 c) (hf0 : ∀ x ∈ c, (Lit.int .i64 x).wf = true) (hs0 : n0 * 8 ≤ 140737488351232) (b : Int) (hwb : (Lit.int .i64 b).wf = true) :
    Calls Try.prog 5 #[.slice a0 n0 cap0, .int .i64 b] w fun e w' => e = .returned (.bool true) ∧ Below w.heap.size w w' := by
  have HW := hide (works8_any w)
  have H0 := hide h0
  by_cases hbig : 2000 < (n0 : Int)
  · clear h0 hf0 hs0
    go_enter Try.func5, Try.ntmps5
    go_wp2_with (go_at_call 9; refine HW.out.mono ?_; rintro e w1 ⟨rfl, hb1⟩)
    go_ret
    exact ⟨rfl, hb1⟩
  · rcases base_two b with hb | hb
    · have HR := hide (fun w' => sequences_arg a0 n0 cap0 b w' hb)
      have HQ := hide (fun w' => resolve_arg a0 n0 cap0 b w' hb)
      clear h0 hf0 hs0
      go_enter Try.func5, Try.ntmps5
      go_wp2_with (first
        | (go_at_call 9; refine HW.out.mono ?_; rintro e w1 ⟨rfl, hb1⟩)
        | (go_at_call 16; refine (HQ.out _).mono ?_; rintro e w2 ⟨rfl, rfl⟩)
        | (go_at_call 14; refine (HR.out _).mono ?_; rintro e w2 ⟨rfl, rfl⟩))
      go_ret
      exact ⟨rfl, hb1⟩
    · by_cases hF : Ex.Formed c
      · have hn2 : n0 ≤ 2000 := by omega
        have hlen := h0.len
        have HR := hide (fun w' (hk : KO w w') => sequences_ok a0 n0 cap0 c b w' (h0.below hk) hn2 hb hF)
        have HQ := hide (fun w' (hk : KO w w') => resolve_ok a0 n0 cap0 c b w' (h0.below hk) hs0 hb hF)
        have HMEM := hide (fun j (hj : j < (Rn.sqs b (Ex.LV b c) (Iso.MT c) (Rn.RS (Ex.LV b c)) (Rn.RS (Ex.LV b c)).length).length) => (show ((Rn.sqs b (Ex.LV b c) (Iso.MT c) (Rn.RS (Ex.LV b c)) (Rn.RS (Ex.LV b c)).length).getD j default).places.Pairwise (· < ·) ∧ ∀ i ∈ ((Rn.sqs b (Ex.LV b c) (Iso.MT c) (Rn.RS (Ex.LV b c)) (Rn.RS (Ex.LV b c)).length).getD j default).places, i < n0 ∧ (Ex.LV b c).getD i 0 = ((Rn.sqs b (Ex.LV b c) (Iso.MT c) (Rn.RS (Ex.LV b c)) (Rn.RS (Ex.LV b c)).length).getD j default).lvl from by
          obtain ⟨k, h1, h2, h3⟩ := Rn.sqs_mem hj
          rw [h3, ← hlen]
          exact Rn.sq_places hb hF h1))
        have HCNT := hide (fun i (hi : i < n0) => (show ((Rn.sqs b (Ex.LV b c) (Iso.MT c) (Rn.RS (Ex.LV b c)) (Rn.RS (Ex.LV b c)).length).flatMap Rn.Sq.places).count i = if 0 ≤ (Ex.LV b c).getD i 0 then 1 else 0 from by
          have := Rn.AP_count hb hF i (by rw [hlen]; exact hi)
          unfold Rn.AP Rn.kp at this
          rw [this]
          by_cases h : 0 ≤ (Ex.LV b c).getD i 0
          · rw [if_pos h, if_pos (by simpa using h)]
          · rw [if_neg h, if_neg (by simpa using h)]))
        have hNl : (Rn.sqs b (Ex.LV b c) (Iso.MT c) (Rn.RS (Ex.LV b c)) (Rn.RS (Ex.LV b c)).length).length ≤ 2000 := by
          have h1 := Rn.sqs_len b (Ex.LV b c) (Iso.MT c) (Rn.RS (Ex.LV b c)) (Rn.RS (Ex.LV b c)).length
          have h2 := Rn.R_len (Ex.LV b c) (Ex.LV b c).length
          rw [Ex.LV_len] at h2
          have h3 : (Rn.RS (Ex.LV b c)).length ≤ c.length := by unfold Rn.RS; rw [Ex.LV_len]; exact h2
          omega
        generalize Rn.sqs b (Ex.LV b c) (Iso.MT c) (Rn.RS (Ex.LV b c)) (Rn.RS (Ex.LV b c)).length = ss at *
        generalize Ex.LV b c = lv at *
        obtain ⟨ii, hii, hy0, hy1, hy2⟩ := info_parts infoInt
        have HII := hide hii
        have HY0 := hide hy0
        have HY1 := hide hy1
        have HY2 := hide hy2
        clear h0 hf0 hs0 hF hwb hb hii hy0 hy1 hy2 hlen
        go_enter Try.func5, Try.ntmps5
        go_wp2_with fail
        refine HW.out.mono ?_
        rintro e w1 ⟨rfl, hb1⟩
        have HB1 := hide hb1
        clear hb1
        go_wp2_with fail
        refine (HQ.out w1 HB1.out).mono ?_
        rintro e w2 ⟨bl, bt, rfl, rl, _, hb2⟩
        have HB2 := hide (show KO w w2 from KO.on HB1.out hb2)
        have HRL2 := hide rl
        clear hb2 rl HB1 HQ HW
        go_wp2_with fail
        refine (HR.out w2 HB2.out).mono ?_
        rintro e W ⟨sa, cs, rfl, sl, hb3⟩
        have HSL := hide sl
        have HRL := hide (HRL2.out.below hb3)
        have HB := hide (KO.on HB2.out hb3)
        clear sl hb3 HB2 HRL2 HR
        generalize hLL : ss.length = L at *
        have HLE := hide hLL
        clear hLL
        go_wp2_with (at_make; refine wpList_make_full _ rfl _ _ 22 rfl W.heap.size 3 ii (.int .i64 0) 1 Try.underlying22 HII.out HY0.out HY1.out _ _ _ _ n0 rfl rfl rfl rfl ?b2 ?b3 (Nat.le_refl _) ?_)
        case b2 => rw [HY2.out]; omega
        case b3 => unfold maxLen; omega
        intro wm hown hgrow
        have hbel := (Below.refl W.heap.size W).grown hgrow (Nat.le_refl _) (fun _ h => by cases h)
        have HCV : Hid (CV W n0 ([] : List Nat) wm) := by
          refine ⟨?_, hbel⟩
          have e : (madeCells #[Value.int .i64 0] n0).toList = (Rn.CL n0 []).map (Value.int .i64) := by
            rw [Rn.CL_nil]
            simp [toList_madeCells_one]
          rw [← e]
          simpa using hown
        clear hown hgrow hbel
        go_wp2
        go_loopw [47] (fun s47 wr => ∃ j : Nat, j ≤ L ∧ s47 = .int .i64 (j : Int) ∧ Hid (CV W n0 ((ss.take j).flatMap Rn.Sq.places) wr)) (fun s47 _ => L - (intOf s47).toNat)
        case atStart => exact ⟨0, Nat.zero_le _, rfl, HCV⟩
        case round =>
          obtain ⟨j, hj, rfl, hcv⟩ := hrel
          by_cases hjl : j < L
          · obtain ⟨hp1, hp2⟩ := HMEM.out j hjl
            obtain ⟨g, gj, cj, rfl, hgl, d0, d1, d2, d3, hrow⟩ := HSL.out.at' j hjl
            replace d0 := (hcv.out.bel.cell (p := ⟨g, j * 4, none⟩) (by exact hgl)).trans d0
            replace d1 := (hcv.out.bel.cell (p := ⟨g, j * 4 + 1, none⟩) (by exact hgl)).trans d1
            replace d2 := (hcv.out.bel.cell (p := ⟨g, j * 4 + 2, none⟩) (by exact hgl)).trans d2
            replace d3 := (hcv.out.bel.cell (p := ⟨g, j * 4 + 3, none⟩) (by exact hgl)).trans d3
            have hin : (j : Int) < (L : Int) := by omega
            have HTK := hide (take_places ss j (by rw [HLE.out]; exact hjl))
            have HPRE := hide (fun (q : List Nat) (hq : q <+: (ss.getD j default).places) (i : Nat) (hi : i < n0) => (show ((ss.take j).flatMap Rn.Sq.places ++ q).count i ≤ 1 from by
              have h1 : (ss.take j).flatMap Rn.Sq.places ++ q <+: ss.flatMap Rn.Sq.places := by
                have h2 : (ss.take (j + 1)).flatMap Rn.Sq.places <+: ss.flatMap Rn.Sq.places := by
                  conv => rhs; rw [← List.take_append_drop (j + 1) ss, List.flatMap_append]
                  exact List.prefix_append _ _
                rw [take_places ss j (by rw [HLE.out]; exact hjl)] at h2
                exact List.IsPrefix.trans (List.prefix_append_right_inj _ |>.2 hq) h2
              have h3 := List.IsPrefix.count_le i h1
              rw [HCNT.out i hi] at h3
              split at h3 <;> omega))
            generalize (ss.getD j default).lvl = lx at *
            generalize (ss.getD j default).sos = so at *
            generalize (ss.getD j default).eos = eo at *
            generalize (ss.getD j default).places = ps at *
            generalize (ss.take j).flatMap Rn.Sq.places = l0 at *
            obtain ⟨m, hm⟩ : ∃ m, ps.length = m := ⟨_, rfl⟩
            rw [hm] at d0 hrow
            have HM := hide hm
            have hmn : m ≤ cj := hrow.le
            have hmx : cj ≤ 9223372036854775807 := hrow.max
            clear hm
            have hxb : W.heap.size < wr.heap.size := (hcv.out.own.lt _ rfl).2
            obtain ⟨X, hX⟩ : ∃ X, wr.alloc (.cells #[.slice (some ⟨gj, 0, none⟩) m cj, .int .i64 lx, .int .i64 so, .int .i64 eo] 36) = X := ⟨_, rfl⟩
            have hXn : X.heap[wr.heap.size]? = some (.cells #[.slice (some ⟨gj, 0, none⟩) m cj, .int .i64 lx, .int .i64 so, .int .i64 eo] 36 (0, 0)) := by rw [← hX]; exact heap_alloc_new _ _
            have HCX := hide (show CV W n0 l0 X from by rw [← hX]; exact hcv.out.alloc _)
            have x0 : X.cell? ⟨wr.heap.size, 0, none⟩ = some (.slice (some ⟨gj, 0, none⟩) m cj) := by simp [World.cell?, hXn]
            have x1 : X.cell? ⟨wr.heap.size, 1, none⟩ = some (.int .i64 lx) := by simp [World.cell?, hXn]
            have HROWW := hide (fun wq (hb : Below W.heap.size W wq) => hrow.below hb)
            generalize hxe : wr.heap.size = xb at *
            clear hXn hrow hcv
            go_wp2
            clear d0 d1 d2 d3 hX hxe
            go_loopw [54] (fun s54 wr => ∃ k : Nat, k ≤ m ∧ s54 = .int .i64 (k : Int) ∧ Hid (CV W n0 (l0 ++ ps.take k) wr ∧ wr.cell? ⟨xb, 0, none⟩ = some (.slice (some ⟨gj, 0, none⟩) m cj) ∧ wr.cell? ⟨xb, 1, none⟩ = some (.int .i64 lx))) (fun s54 _ => m - (intOf s54).toNat)
            case atStart => exact ⟨0, Nat.zero_le _, rfl, hide ⟨by rw [List.take_zero, List.append_nil]; exact HCX.out, x0, x1⟩⟩
            case round =>
              obtain ⟨k, hk, rfl, hq⟩ := hrel
              have HQ := hide hq.out
              clear hq
              obtain ⟨hcq, y0, y1⟩ := HQ.out
              by_cases hkm : k < m
              · have hkp : k < ps.length := by rw [HM.out]; exact hkm
                have hrw := HROWW.out wr hcq.bel
                have r0 := row_at hrw hkm
                rw [Rn.zs_at _ _ hkp] at r0
                obtain ⟨hx1, hx2⟩ := hp2 _ (Rn.getD_mem hkp)
                have l0x := row_at (HRL.out.below hcq.bel) hx1
                rw [hx2] at l0x
                have HTS := hide (getD_take_snoc ps k hkp)
                have hpre := HPRE.out (ps.take k) (List.take_prefix k ps) _ hx1
                obtain ⟨s0, s1⟩ := hcq.cell hx1
                have hprev : 0 < k → ps.getD (k - 1) 0 < ps.getD k 0 := fun hk0 => by
                  have := (List.pairwise_iff_getElem.1 hp1) (k - 1) k (by omega) hkp (by omega)
                  simpa [List.getD, hkp, show k - 1 < ps.length by omega] using this
                have HCQ := hide hcq
                have hxw : ¬ W.heap.size = xb := by omega
                have hin2 : (k : Int) < (m : Int) := by omega
                by_cases hk0 : k = 0
                · subst hk0
                  generalize ps.getD 0 0 = x at *
                  generalize hcc : (l0 ++ ps.take 0).count x = cc at *
                  have hx3 : (x : Int) < (n0 : Int) := by omega
                  have gg1 : decide ((x : Int) < 0) = false := decide_eq_false (by omega)
                  have gg2 : decide ((n0 : Int) ≤ (x : Int)) = false := decide_eq_false (by omega)
                  have gg3 : ¬ (x : Int) < 0 := by omega
                  have gg4 : ¬ (n0 : Int) ≤ (x : Int) := by omega
                  have gg5 : decide (n0 ≤ x) = false := decide_eq_false (by omega)
                  have hcb : (cc : Int) ≤ 1 := by omega
                  have HCC := hide hcc
                  clear hprev hp1 hp2 hpre hkp hrw hcq hx2 hcc
                  go_wp2
                  go_quiet (fail)
                  go_wp2
                  go_roundw
                  case rel =>
                    refine ⟨0 + 1, by omega, by go_num, hide ⟨?_, ?_, ?_⟩⟩
                    · rw [HTS.out, ← List.append_assoc]
                      have := (HCQ.out.drewN nq).put x
                      rw [HCC.out] at this
                      exact this
                    · rw [World.cell?_setCell_far _ _ _ _ (by simpa using hxw)]; exact y0
                    · rw [World.cell?_setCell_far _ _ _ _ (by simpa using hxw)]; exact y1
                  case measure => simp [intOf]; omega
                · obtain ⟨k', rfl⟩ : ∃ k', k = k' + 1 := ⟨k - 1, by omega⟩
                  have hpv := hprev (by omega)
                  rw [Nat.add_sub_cancel] at hpv
                  have r1 := row_at hrw (show k' < m by omega)
                  rw [Rn.zs_at _ _ (by omega)] at r1
                  generalize ps.getD (k' + 1) 0 = x at *
                  generalize ps.getD k' 0 = x' at *
                  generalize hcc : (l0 ++ ps.take (k' + 1)).count x = cc at *
                  have hx3 : (x : Int) < (n0 : Int) := by omega
                  have gg1 : decide ((x : Int) < 0) = false := decide_eq_false (by omega)
                  have gg2 : decide ((n0 : Int) ≤ (x : Int)) = false := decide_eq_false (by omega)
                  have gg3 : ¬ (x : Int) < 0 := by omega
                  have gg4 : ¬ (n0 : Int) ≤ (x : Int) := by omega
                  have gg5 : decide (n0 ≤ x) = false := decide_eq_false (by omega)
                  have hcb : (cc : Int) ≤ 1 := by omega
                  have HCC := hide hcc
                  have ek : ((k' + 1 : Nat) : Int) - 1 = (k' : Int) := by omega
                  have gg6 : decide ((0 : Int) < (k' : Int) + 1) = true := decide_eq_true (by omega)
                  have gg9 : (0 : Int) < (k' : Int) + 1 := by omega
                  have hwr : IntKind.i64.wrap (k' : Int) = (k' : Int) := by rw [IntKind.wrap_i64]; omega
                  have hkm3 : (k' : Int) < (m : Int) := by omega
                  have gg7 : decide ((x : Int) ≤ (x' : Int)) = false := decide_eq_false (by omega)
                  have gg8 : decide (x ≤ x') = false := decide_eq_false (by omega)
                  clear hprev hp1 hp2 hpre hkp hrw hcq hx2 hcc
                  go_wp2
                  go_quiet (fail)
                  go_wp2
                  go_roundw
                  case rel =>
                    refine ⟨k' + 1 + 1, by omega, by go_num, hide ⟨?_, ?_, ?_⟩⟩
                    · rw [HTS.out, ← List.append_assoc]
                      have := (HCQ.out.drewN nq).put x
                      rw [HCC.out] at this
                      exact this
                    · rw [World.cell?_setCell_far _ _ _ _ (by simpa using hxw)]; exact y0
                    · rw [World.cell?_setCell_far _ _ _ _ (by simpa using hxw)]; exact y1
                  case measure => simp [intOf]; omega
              · obtain rfl : k = m := by omega
                have hne2 : ¬ ((k : Int) < (k : Int)) := by omega
                have HE := hide (show CV W n0 ((ss.take (j + 1)).flatMap Rn.Sq.places) wr from by rw [HTK.out]; have := hcq; rw [← HM.out, List.take_length] at this; exact this)
                clear hcq hp1 hp2 HPRE HROWW
                go_wp2
                exact ⟨⟨j + 1, by omega, by go_num, HE⟩, by simp [intOf]; omega⟩
          · obtain rfl : j = L := by omega
            have hne2 : ¬ ((j : Int) < (j : Int)) := by omega
            have HE := hide (show CV W n0 (ss.flatMap Rn.Sq.places) wr from by have := hcv.out; rw [← HLE.out, List.take_length] at this; exact this)
            clear hcv
            go_wp2
            go_loopw [100] (fun s100 wq => ∃ i : Nat, i ≤ n0 ∧ s100 = .int .i64 (i : Int) ∧ wr = wq) (fun s100 _ => n0 - (intOf s100).toNat)
            case atStart => exact ⟨0, Nat.zero_le _, rfl, rfl⟩
            case round =>
              obtain ⟨i, hi, rfl, rfl⟩ := hrel
              by_cases hin : i < n0
              · have hin2 : (i : Int) < (n0 : Int) := by omega
                have hlx := row_at (HRL.out.below HE.out.bel) hin
                have hcx := (HE.out.cell hin).1
                rw [HCNT.out i hin] at hcx
                generalize lv.getD i 0 = x at *
                by_cases hx : 0 ≤ x
                · rw [if_pos hx] at hcx
                  have hx2 : ¬ x < 0 := by omega
                  go_wp2
                  go_roundw
                  case rel => exact ⟨i + 1, by omega, by go_num, trivial⟩
                  case measure => simp [intOf]; omega
                · rw [if_neg hx] at hcx
                  have hx2 : x < 0 := by omega
                  go_wp2
                  go_roundw
                  case rel => exact ⟨i + 1, by omega, by go_num, trivial⟩
                  case measure => simp [intOf]; omega
              · obtain rfl : i = n0 := by omega
                have hne3 : ¬ ((i : Int) < (i : Int)) := by omega
                go_wp2
                go_ret
                exact ⟨rfl, KO.on HB.out HE.out.bel⟩
      · have HR := hide (fun w' (hk : KO w w') => sequences_form a0 n0 cap0 c b w' (h0.below hk) hs0 hb hF)
        have HQ := hide (fun w' (hk : KO w w') => resolve_form a0 n0 cap0 c b w' (h0.below hk) hs0 hb hF)
        clear h0 hf0 hs0 hF
        go_enter Try.func5, Try.ntmps5
        go_wp2_with (first
          | (go_at_call 9; refine HW.out.mono ?_; rintro e w1 ⟨rfl, hb1⟩)
          | (go_at_call 16; refine (HQ.out _ hb1).mono ?_; rintro e w2 ⟨rfl, rfl⟩)
          | (go_at_call 14; refine (HR.out _ hb1).mono ?_; rintro e w2 ⟨rfl, rfl⟩))
        go_ret
        exact ⟨rfl, hb1⟩
end Go.Proofs.Ythohbiklnknofaa
