/- ExplicitDeep: embeddings, one within another. -/
import Derived.Test.YthoganddhoklpaaExd
import Derived.Test.YthoganddhoklpaaBools
import Derived.Test.YthoganddhoklpaaPairs
namespace Go.Proofs.Ythoganddhoklpaa
open Go.RowKit
set_option linter.unusedVariables false
set_option maxHeartbeats 2000000
set_option maxRecDepth 100000
/-- A row that grows by appends. -/
structure RJ (w : World) (zs : List Int) (k : Nat) (sv : Value) (wr : World) : Prop where
  own : wr.ownsRow w.heap.size 3 1 sv k (zs.map (Value.int .i64))
  bel : Below w.heap.size w wr
theorem RJ.snoc {w : World} {zs : List Int} {k : Nat} {x : Int} {sv v2 : Value} {wr w2 : World} {o : Obj} (h : RJ w zs k sv wr) (hb : Below w.heap.size (wr.alloc o) w2) (ho : w2.ownsRow w.heap.size 3 1 v2 (k + 1) (zs.map (Value.int .i64) ++ [x].map (Value.int .i64))) : RJ w (zs ++ [x]) (k + 1) v2 w2 :=
  ⟨by rw [List.map_append]; exact ho, (h.bel.alloc h.bel.size o).trans hb⟩
theorem ExplicitDeep_walk (w : World) (at0 : Int) (hat : (Lit.int .i64 at0).wf = true) (a0 : Option Addr) (nt cap0 : Nat) (T : Nat → Bool) (hT : BRow w a0 nt T) :
    Calls Try.prog 7 #[.int .i64 at0, .slice a0 nt cap0] w fun e w' => e = .returned (.bool true) ∧ Below w.heap.size w w' := by
  have HW := hide (works7_any w)
  have HP := hide (place_at at0 301 (by omega) (by omega))
  have HT := hide hT
  have hnt := hT.max
  unfold maxLen at hnt
  obtain ⟨ii, hii, hy0, hy1, hy2⟩ := info_parts infoInt
  have HII := hide hii
  have HY0 := hide hy0
  have HY1 := hide hy1
  have HY2 := hide hy2
  obtain ⟨m, hm, hkw0⟩ := HP.out
  have hkw : wrap64 ((IntKind.u64.wrap at0).tmod 301) = (m : Int) := hkw0
  clear hkw0 HP hT hii hy0 hy1 hy2 hat
  go_enter Try.func7, Try.ntmps7
  go_wp2_with fail
  refine HW.out.mono ?_
  rintro e w1 ⟨rfl, hb1⟩
  have HB1 := hide hb1
  have HTB := hide (HT.out.below hb1)
  clear hb1 HW HT
  go_wp2_with fail
  rw [hkw]
  clear hkw
  go_loopw [5, 6, 7] (fun s5 s6 s7 wr => ∃ (k : Nat) (l : Int) (es : List Int), k ≤ m ∧ s7 = .int .i64 (k : Int) ∧ s6 = .int .i64 l ∧ Hid (es.length = k) ∧ Hid (Ex.DF es l 0) ∧ Hid (RJ w1 es k s5 wr)) (fun _ _ s7 _ => m - (intOf s7).toNat)
  case atStart => exact ⟨0, 0, [], Nat.zero_le _, rfl, rfl, hide rfl, hide Ex.DF.nil, hide ⟨World.ownsRow_nil _ _ _ _, Below.refl _ _⟩⟩
  case round =>
    obtain ⟨k, l, es, hk, rfl, rfl, hek, hD, hJ⟩ := hrel
    by_cases hlt : k < m
    · have hin : (k : Int) < (m : Int) := by omega
      obtain ⟨hl0, hl1⟩ := hD.out.range
      obtain ⟨a5, c5, rfl, _⟩ := owns_form hJ.out.own
      obtain ⟨rt, hrt⟩ : ∃ rt, (decide (k < nt) && T k) = rt := ⟨_, rfl⟩
      go_upto_region 9 with fail
      go_cut [8] from 27 to 36 (fun s8 wx => s8 = .bool rt ∧ wr = wx)
      case first =>
        by_cases hkt : k < nt
        · have hktI : (k : Int) < (nt : Int) := by omega
          obtain ⟨b, off, rfl, _, hc⟩ := HTB.out.cells (by omega)
          have ck : wr.cell? ⟨b, off + k, none⟩ = some (.bool (T k)) := (hJ.out.bel.cell (by show b < _; have := World.block_lt_of_cell? w1 _ (hc k hkt); exact this)).trans (hc k hkt)
          have HR := hide (show T k = rt from by rw [← hrt]; simp [hkt])
          clear hc hrt
          go_wp2
          go_meet
          exact ⟨by rw [HR.out], rfl⟩
        · have hktI : ¬ (k : Int) < (nt : Int) := by omega
          have HR := hide (show false = rt from by rw [← hrt]; simp [hkt])
          clear hrt
          go_wp2
          go_meet
          exact ⟨by rw [HR.out], rfl⟩
      obtain ⟨rfl, rfl⟩ := hcut
      clear hrt
      have HOW := hide hJ.out.own
      have hsz := hJ.out.bel.size
      have HPU := hide (fun (hn : Ex.nl l rt ≤ 125) => hD.out.push rt hn)
      have HOV := hide (fun (hn : 125 < Ex.nl l rt) => hD.out.over rt hn)
      have HSN := hide (fun (v2 : Value) (w2 : World) (o : Obj) hb ho => hJ.out.snoc (x := Ex.cls rt) (v2 := v2) (w2 := w2) (o := o) hb ho)
      clear hD hJ HTB
      cases rt with
      | true =>
        by_cases hpar : (l + 1) % 2 = 1
        · have e1 : ((l + 1) % 2 == 1) = true := beq_iff_eq.2 hpar
          have enl : Ex.nl l true = l + 1 := by unfold Ex.nl; simp; omega
          rw [enl] at HPU HOV
          rw [show Ex.cls true = 17 from rfl] at HPU HOV HSN
          by_cases hov : 125 < l + 1
          · exfalso; omega
          · have HD1 := hide (HPU.out (by omega))
            clear HPU HOV enl
            go_wp2_with (at_builtin; refine wpList_append_row _ rfl (.tmp 38) (.tmp 40) 22 rfl w1.heap.size 3 ii (.int .i64 0) 8 Try.underlying22 HII.out HY0.out HY1.out HY2.out rfl _ k _ rfl (HOW.out.alloc _) .i64 _ 1 1 [17] rfl (row_one _ wr.heap.size rfl 17) (by omega) (by omega) (by simp; omega) ?_; intro v2 w2 hown2 hb2)
            have HJ1 := hide (HSN.out v2 w2 _ hb2 hown2)
            clear hown2 hb2 HOW HSN hsz
            obtain ⟨a2, c2, rfl, _⟩ := owns_form HJ1.out.own
            go_wp2
            go_roundw
            case rel => exact ⟨k + 1, l + 1, es ++ [17], by omega, by go_num, rfl, hide (by have := hek.out; simp; omega), HD1, HJ1⟩
            case measure => simp [intOf]; omega
        · have e1 : ((l + 1) % 2 == 1) = false := beq_false_of_ne hpar
          have enl : Ex.nl l true = l + 1 + 1 := by unfold Ex.nl; simp; omega
          rw [enl] at HPU HOV
          rw [show Ex.cls true = 17 from rfl] at HPU HOV HSN
          by_cases hov : 125 < l + 1 + 1
          · have HD1 := hide (HOV.out hov)
            clear HPU HOV enl hpar
            go_wp2_with (at_builtin; refine wpList_append_row _ rfl (.tmp 38) (.tmp 40) 22 rfl w1.heap.size 3 ii (.int .i64 0) 8 Try.underlying22 HII.out HY0.out HY1.out HY2.out rfl _ k _ rfl (HOW.out.alloc _) .i64 _ 1 1 [17] rfl (row_one _ wr.heap.size rfl 17) (by omega) (by omega) (by simp; omega) ?_; intro v2 w2 hown2 hb2)
            have HJ1 := hide (HSN.out v2 w2 _ hb2 hown2)
            clear hown2 hb2 HOW HSN hsz
            obtain ⟨a2, c2, rfl, _⟩ := owns_form HJ1.out.own
            go_wp2_with fail
            go_loopw [5, 11] (fun s5 s11 wr => ∃ (j oe : Nat) (es2 : List Int), j ≤ m ∧ s11 = .int .i64 (j : Int) ∧ Hid (es2.length = j) ∧ Hid (Ex.DF es2 l (oe + 1)) ∧ Hid (RJ w1 es2 j s5 wr)) (fun _ s11 _ => m - (intOf s11).toNat)
            case atStart => exact ⟨k + 1, 0, es ++ [17], by omega, by go_num, hide (by have := hek.out; simp; omega), HD1, HJ1⟩
            case round =>
              clear HD1 HJ1
              obtain ⟨j, oe, es2, hj, rfl, he2, hD2, hJ2⟩ := hrel
              by_cases hjm : j < m
              · have hjI : (j : Int) < (m : Int) := by omega
                have HOW := hide hJ2.out.own
                have hsz := hJ2.out.bel.size
                go_wp2_with (at_builtin; refine wpList_append_row _ rfl (.tmp 60) (.tmp 61) 22 rfl w1.heap.size 3 ii (.int .i64 0) 8 Try.underlying22 HII.out HY0.out HY1.out HY2.out rfl _ j _ rfl (HOW.out.alloc _) .i64 _ 1 1 [17] rfl (row_one _ wr.heap.size rfl 17) (by omega) (by omega) (by simp; omega) ?_; intro v2 w2 hown2 hb2)
                have HJ3 := hide (hJ2.out.snoc (x := 17) hb2 hown2)
                have HD3 := hide hD2.out.more
                clear hown2 hb2 HOW hJ2 hsz hD2
                obtain ⟨a2, c2, rfl, _⟩ := owns_form HJ3.out.own
                go_wp2
                go_roundw
                case rel => exact ⟨j + 1, oe + 1, es2 ++ [17], by omega, by go_num, hide (by have := he2.out; simp; omega), HD3, HJ3⟩
                case measure => simp [intOf]; omega
              · have hjm2 : j = m := by omega
                have hjI : ¬ (j : Int) < (m : Int) := by omega
                have HJ := hJ2
                rw [hjm2] at HJ hJ2
                obtain ⟨a5, c5, rfl, _⟩ := owns_form hJ2.out.own
                clear hJ2
                have HEL : Hid (es2.length = m) := hide (by have := he2.out; omega)
                have HDF := hide (hD2.out)
                have HOW := hide HJ.out.own
                have hsz := HJ.out.bel.size
                go_wp2_with (at_builtin; refine wpList_append_row _ rfl (.tmp 64) (.tmp 65) 22 rfl w1.heap.size 3 ii (.int .i64 0) 8 Try.underlying22 HII.out HY0.out HY1.out HY2.out rfl _ m _ rfl (HOW.out.alloc _) .i64 _ 1 1 [1] rfl (row_one _ wr.heap.size rfl 1) (by omega) (by omega) (by simp; omega) ?_; intro v2 w2 hown2 hb2)
                have HJ1 := hide (HJ.out.snoc (x := 1) hb2 hown2)
                clear hown2 hb2 HOW HJ hsz
                obtain ⟨a2, c2, rfl, _⟩ := owns_form HJ1.out.own
                go_wp2_with fail
                go_loopw [5, 12] (fun s5 s12 wr => ∃ j : Nat, j ≤ m ∧ s12 = .int .i64 (j : Int) ∧ Hid (RJ w1 (Ex.dl es2 j) (m + 1 + j) s5 wr)) (fun _ s12 _ => m - (intOf s12).toNat)
                case atStart => exact ⟨0, Nat.zero_le _, rfl, hide (by rw [Ex.dl_zero]; exact HJ1.out)⟩
                case round =>
                  clear HJ1
                  obtain ⟨j, hj, rfl, hJ⟩ := hrel
                  by_cases hjm : j < m
                  · have hjI : (j : Int) < (m : Int) := by omega
                    have HOW := hide hJ.out.own
                    have hsz := hJ.out.bel.size
                    go_wp2_with (at_builtin; refine wpList_append_row _ rfl (.tmp 72) (.tmp 73) 22 rfl w1.heap.size 3 ii (.int .i64 0) 8 Try.underlying22 HII.out HY0.out HY1.out HY2.out rfl _ (m + 1 + j) _ rfl (HOW.out.alloc _) .i64 _ 1 1 [19] rfl (row_one _ wr.heap.size rfl 19) (by omega) (by omega) (by simp; omega) ?_; intro v2 w2 hown2 hb2)
                    have HJ2 := hide (hJ.out.snoc (x := 19) hb2 hown2)
                    clear hown2 hb2 HOW hJ hsz
                    obtain ⟨a2, c2, rfl, _⟩ := owns_form HJ2.out.own
                    go_wp2
                    go_roundw
                    case rel => exact ⟨j + 1, by omega, by go_num, hide (by rw [Ex.dl_succ]; exact HJ2.out)⟩
                    case measure => simp [intOf]; omega
                  · obtain rfl : j = m := by omega
                    have hjI : ¬ (j : Int) < (j : Int) := by omega
                    have HOW := hide hJ.out.own
                    have hsz := hJ.out.bel.size
                    go_wp2_with (at_builtin; refine wpList_append_row _ rfl (.tmp 75) (.tmp 76) 22 rfl w1.heap.size 3 ii (.int .i64 0) 8 Try.underlying22 HII.out HY0.out HY1.out HY2.out rfl _ (j + 1 + j) _ rfl (HOW.out.alloc _) .i64 _ 1 1 [2] rfl (row_one _ wr.heap.size rfl 2) (by omega) (by omega) (by simp; omega) ?_; intro v2 w2 hown2 hb2)
                    have hJ2 := hJ.out.snoc (x := 2) hb2 hown2
                    have hdc : Ex.dl es2 j ++ [2] = Ex.dc es2 := by unfold Ex.dc; rw [HEL.out]
                    rw [hdc] at hJ2
                    clear hown2 hb2 HOW hJ hsz
                    obtain ⟨N, hN0⟩ : ∃ N, j + 1 + j + 1 = N := ⟨_, rfl⟩
                    rw [hN0] at hJ2
                    obtain ⟨a3, c3, rfl, hr3⟩ := row_of_owns hJ2.own
                    have HRS := hide (resolve_ok a3 N c3 (Ex.dc es2) 0 w2 hr3 (by omega) (.inl rfl) HDF.out.formed)
                    have HB := hide (HB1.out.trans (hJ2.bel.mono HB1.out.size))
                    have hdl := hr3.len
                    clear hJ2 hr3
                    go_wp2_with fail
                    refine HRS.out.mono ?_
                    rintro e w4 ⟨bl, bt, rfl, rl, rt, hb4⟩
                    have cm1 := row_cell rl (k := j) (by omega)
                    have cm2 := row_cell rl (k := 2 * j + 1) (by omega)
                    rw [Ex.LV_at 0 _ j (by omega)] at cm1
                    rw [Ex.LV_at 0 _ (2 * j + 1) (by omega)] at cm2
                    have em1 := HDF.out.mid
                    have em2 := HDF.out.last
                    rw [HEL.out] at em1 em2
                    rw [em1] at cm1
                    rw [em2] at cm2
                    have HBF := hide (HB.out.trans (hb4.mono HB.out.size))
                    have hN : (N : Int) = 2 * (j : Int) + 2 := by omega
                    have hNe : ((N : Int) == 2 * (j : Int) + 2) = true := beq_iff_eq.2 hN
                    have hjN : (j : Int) < (N : Int) := by omega
                    have hjN2 : 2 * (j : Int) + 1 < (N : Int) := by omega
                    clear rl rt hb4 HRS HDF em1 em2 hdc HB hdl hN hN0
                    go_wp2_with fail
                    go_ret
                    exact ⟨ret_bool (by simp), HBF.out⟩
          · have HD1 := hide (HPU.out (by omega))
            clear HPU HOV enl
            go_wp2_with (at_builtin; refine wpList_append_row _ rfl (.tmp 38) (.tmp 40) 22 rfl w1.heap.size 3 ii (.int .i64 0) 8 Try.underlying22 HII.out HY0.out HY1.out HY2.out rfl _ k _ rfl (HOW.out.alloc _) .i64 _ 1 1 [17] rfl (row_one _ wr.heap.size rfl 17) (by omega) (by omega) (by simp; omega) ?_; intro v2 w2 hown2 hb2)
            have HJ1 := hide (HSN.out v2 w2 _ hb2 hown2)
            clear hown2 hb2 HOW HSN hsz
            obtain ⟨a2, c2, rfl, _⟩ := owns_form HJ1.out.own
            go_wp2
            go_roundw
            case rel => exact ⟨k + 1, l + 1 + 1, es ++ [17], by omega, by go_num, rfl, hide (by have := hek.out; simp; omega), HD1, HJ1⟩
            case measure => simp [intOf]; omega
      | false =>
        by_cases hpar : (l + 1) % 2 = 1
        · have e1 : ((l + 1) % 2 == 1) = true := beq_iff_eq.2 hpar
          have enl : Ex.nl l false = l + 1 + 1 := by unfold Ex.nl; simp; omega
          rw [enl] at HPU HOV
          rw [show Ex.cls false = 15 from rfl] at HPU HOV HSN
          by_cases hov : 125 < l + 1 + 1
          · have HD1 := hide (HOV.out hov)
            clear HPU HOV enl hpar
            go_wp2_with (at_builtin; refine wpList_append_row _ rfl (.tmp 38) (.tmp 40) 22 rfl w1.heap.size 3 ii (.int .i64 0) 8 Try.underlying22 HII.out HY0.out HY1.out HY2.out rfl _ k _ rfl (HOW.out.alloc _) .i64 _ 1 1 [15] rfl (row_one _ wr.heap.size rfl 15) (by omega) (by omega) (by simp; omega) ?_; intro v2 w2 hown2 hb2)
            have HJ1 := hide (HSN.out v2 w2 _ hb2 hown2)
            clear hown2 hb2 HOW HSN hsz
            obtain ⟨a2, c2, rfl, _⟩ := owns_form HJ1.out.own
            go_wp2_with fail
            go_loopw [5, 11] (fun s5 s11 wr => ∃ (j oe : Nat) (es2 : List Int), j ≤ m ∧ s11 = .int .i64 (j : Int) ∧ Hid (es2.length = j) ∧ Hid (Ex.DF es2 l (oe + 1)) ∧ Hid (RJ w1 es2 j s5 wr)) (fun _ s11 _ => m - (intOf s11).toNat)
            case atStart => exact ⟨k + 1, 0, es ++ [15], by omega, by go_num, hide (by have := hek.out; simp; omega), HD1, HJ1⟩
            case round =>
              clear HD1 HJ1
              obtain ⟨j, oe, es2, hj, rfl, he2, hD2, hJ2⟩ := hrel
              by_cases hjm : j < m
              · have hjI : (j : Int) < (m : Int) := by omega
                have HOW := hide hJ2.out.own
                have hsz := hJ2.out.bel.size
                go_wp2_with (at_builtin; refine wpList_append_row _ rfl (.tmp 60) (.tmp 61) 22 rfl w1.heap.size 3 ii (.int .i64 0) 8 Try.underlying22 HII.out HY0.out HY1.out HY2.out rfl _ j _ rfl (HOW.out.alloc _) .i64 _ 1 1 [17] rfl (row_one _ wr.heap.size rfl 17) (by omega) (by omega) (by simp; omega) ?_; intro v2 w2 hown2 hb2)
                have HJ3 := hide (hJ2.out.snoc (x := 17) hb2 hown2)
                have HD3 := hide hD2.out.more
                clear hown2 hb2 HOW hJ2 hsz hD2
                obtain ⟨a2, c2, rfl, _⟩ := owns_form HJ3.out.own
                go_wp2
                go_roundw
                case rel => exact ⟨j + 1, oe + 1, es2 ++ [17], by omega, by go_num, hide (by have := he2.out; simp; omega), HD3, HJ3⟩
                case measure => simp [intOf]; omega
              · have hjm2 : j = m := by omega
                have hjI : ¬ (j : Int) < (m : Int) := by omega
                have HJ := hJ2
                rw [hjm2] at HJ hJ2
                obtain ⟨a5, c5, rfl, _⟩ := owns_form hJ2.out.own
                clear hJ2
                have HEL : Hid (es2.length = m) := hide (by have := he2.out; omega)
                have HDF := hide (hD2.out)
                have HOW := hide HJ.out.own
                have hsz := HJ.out.bel.size
                go_wp2_with (at_builtin; refine wpList_append_row _ rfl (.tmp 64) (.tmp 65) 22 rfl w1.heap.size 3 ii (.int .i64 0) 8 Try.underlying22 HII.out HY0.out HY1.out HY2.out rfl _ m _ rfl (HOW.out.alloc _) .i64 _ 1 1 [1] rfl (row_one _ wr.heap.size rfl 1) (by omega) (by omega) (by simp; omega) ?_; intro v2 w2 hown2 hb2)
                have HJ1 := hide (HJ.out.snoc (x := 1) hb2 hown2)
                clear hown2 hb2 HOW HJ hsz
                obtain ⟨a2, c2, rfl, _⟩ := owns_form HJ1.out.own
                go_wp2_with fail
                go_loopw [5, 12] (fun s5 s12 wr => ∃ j : Nat, j ≤ m ∧ s12 = .int .i64 (j : Int) ∧ Hid (RJ w1 (Ex.dl es2 j) (m + 1 + j) s5 wr)) (fun _ s12 _ => m - (intOf s12).toNat)
                case atStart => exact ⟨0, Nat.zero_le _, rfl, hide (by rw [Ex.dl_zero]; exact HJ1.out)⟩
                case round =>
                  clear HJ1
                  obtain ⟨j, hj, rfl, hJ⟩ := hrel
                  by_cases hjm : j < m
                  · have hjI : (j : Int) < (m : Int) := by omega
                    have HOW := hide hJ.out.own
                    have hsz := hJ.out.bel.size
                    go_wp2_with (at_builtin; refine wpList_append_row _ rfl (.tmp 72) (.tmp 73) 22 rfl w1.heap.size 3 ii (.int .i64 0) 8 Try.underlying22 HII.out HY0.out HY1.out HY2.out rfl _ (m + 1 + j) _ rfl (HOW.out.alloc _) .i64 _ 1 1 [19] rfl (row_one _ wr.heap.size rfl 19) (by omega) (by omega) (by simp; omega) ?_; intro v2 w2 hown2 hb2)
                    have HJ2 := hide (hJ.out.snoc (x := 19) hb2 hown2)
                    clear hown2 hb2 HOW hJ hsz
                    obtain ⟨a2, c2, rfl, _⟩ := owns_form HJ2.out.own
                    go_wp2
                    go_roundw
                    case rel => exact ⟨j + 1, by omega, by go_num, hide (by rw [Ex.dl_succ]; exact HJ2.out)⟩
                    case measure => simp [intOf]; omega
                  · obtain rfl : j = m := by omega
                    have hjI : ¬ (j : Int) < (j : Int) := by omega
                    have HOW := hide hJ.out.own
                    have hsz := hJ.out.bel.size
                    go_wp2_with (at_builtin; refine wpList_append_row _ rfl (.tmp 75) (.tmp 76) 22 rfl w1.heap.size 3 ii (.int .i64 0) 8 Try.underlying22 HII.out HY0.out HY1.out HY2.out rfl _ (j + 1 + j) _ rfl (HOW.out.alloc _) .i64 _ 1 1 [2] rfl (row_one _ wr.heap.size rfl 2) (by omega) (by omega) (by simp; omega) ?_; intro v2 w2 hown2 hb2)
                    have hJ2 := hJ.out.snoc (x := 2) hb2 hown2
                    have hdc : Ex.dl es2 j ++ [2] = Ex.dc es2 := by unfold Ex.dc; rw [HEL.out]
                    rw [hdc] at hJ2
                    clear hown2 hb2 HOW hJ hsz
                    obtain ⟨N, hN0⟩ : ∃ N, j + 1 + j + 1 = N := ⟨_, rfl⟩
                    rw [hN0] at hJ2
                    obtain ⟨a3, c3, rfl, hr3⟩ := row_of_owns hJ2.own
                    have HRS := hide (resolve_ok a3 N c3 (Ex.dc es2) 0 w2 hr3 (by omega) (.inl rfl) HDF.out.formed)
                    have HB := hide (HB1.out.trans (hJ2.bel.mono HB1.out.size))
                    have hdl := hr3.len
                    clear hJ2 hr3
                    go_wp2_with fail
                    refine HRS.out.mono ?_
                    rintro e w4 ⟨bl, bt, rfl, rl, rt, hb4⟩
                    have cm1 := row_cell rl (k := j) (by omega)
                    have cm2 := row_cell rl (k := 2 * j + 1) (by omega)
                    rw [Ex.LV_at 0 _ j (by omega)] at cm1
                    rw [Ex.LV_at 0 _ (2 * j + 1) (by omega)] at cm2
                    have em1 := HDF.out.mid
                    have em2 := HDF.out.last
                    rw [HEL.out] at em1 em2
                    rw [em1] at cm1
                    rw [em2] at cm2
                    have HBF := hide (HB.out.trans (hb4.mono HB.out.size))
                    have hN : (N : Int) = 2 * (j : Int) + 2 := by omega
                    have hNe : ((N : Int) == 2 * (j : Int) + 2) = true := beq_iff_eq.2 hN
                    have hjN : (j : Int) < (N : Int) := by omega
                    have hjN2 : 2 * (j : Int) + 1 < (N : Int) := by omega
                    clear rl rt hb4 HRS HDF em1 em2 hdc HB hdl hN hN0
                    go_wp2_with fail
                    go_ret
                    exact ⟨ret_bool (by simp), HBF.out⟩
          · have HD1 := hide (HPU.out (by omega))
            clear HPU HOV enl
            go_wp2_with (at_builtin; refine wpList_append_row _ rfl (.tmp 38) (.tmp 40) 22 rfl w1.heap.size 3 ii (.int .i64 0) 8 Try.underlying22 HII.out HY0.out HY1.out HY2.out rfl _ k _ rfl (HOW.out.alloc _) .i64 _ 1 1 [15] rfl (row_one _ wr.heap.size rfl 15) (by omega) (by omega) (by simp; omega) ?_; intro v2 w2 hown2 hb2)
            have HJ1 := hide (HSN.out v2 w2 _ hb2 hown2)
            clear hown2 hb2 HOW HSN hsz
            obtain ⟨a2, c2, rfl, _⟩ := owns_form HJ1.out.own
            go_wp2
            go_roundw
            case rel => exact ⟨k + 1, l + 1 + 1, es ++ [15], by omega, by go_num, rfl, hide (by have := hek.out; simp; omega), HD1, HJ1⟩
            case measure => simp [intOf]; omega
        · have e1 : ((l + 1) % 2 == 1) = false := beq_false_of_ne hpar
          have enl : Ex.nl l false = l + 1 := by unfold Ex.nl; simp; omega
          rw [enl] at HPU HOV
          rw [show Ex.cls false = 15 from rfl] at HPU HOV HSN
          by_cases hov : 125 < l + 1
          · have HD1 := hide (HOV.out hov)
            clear HPU HOV enl hpar
            go_wp2_with (at_builtin; refine wpList_append_row _ rfl (.tmp 38) (.tmp 40) 22 rfl w1.heap.size 3 ii (.int .i64 0) 8 Try.underlying22 HII.out HY0.out HY1.out HY2.out rfl _ k _ rfl (HOW.out.alloc _) .i64 _ 1 1 [15] rfl (row_one _ wr.heap.size rfl 15) (by omega) (by omega) (by simp; omega) ?_; intro v2 w2 hown2 hb2)
            have HJ1 := hide (HSN.out v2 w2 _ hb2 hown2)
            clear hown2 hb2 HOW HSN hsz
            obtain ⟨a2, c2, rfl, _⟩ := owns_form HJ1.out.own
            go_wp2_with fail
            go_loopw [5, 11] (fun s5 s11 wr => ∃ (j oe : Nat) (es2 : List Int), j ≤ m ∧ s11 = .int .i64 (j : Int) ∧ Hid (es2.length = j) ∧ Hid (Ex.DF es2 l (oe + 1)) ∧ Hid (RJ w1 es2 j s5 wr)) (fun _ s11 _ => m - (intOf s11).toNat)
            case atStart => exact ⟨k + 1, 0, es ++ [15], by omega, by go_num, hide (by have := hek.out; simp; omega), HD1, HJ1⟩
            case round =>
              clear HD1 HJ1
              obtain ⟨j, oe, es2, hj, rfl, he2, hD2, hJ2⟩ := hrel
              by_cases hjm : j < m
              · have hjI : (j : Int) < (m : Int) := by omega
                have HOW := hide hJ2.out.own
                have hsz := hJ2.out.bel.size
                go_wp2_with (at_builtin; refine wpList_append_row _ rfl (.tmp 60) (.tmp 61) 22 rfl w1.heap.size 3 ii (.int .i64 0) 8 Try.underlying22 HII.out HY0.out HY1.out HY2.out rfl _ j _ rfl (HOW.out.alloc _) .i64 _ 1 1 [17] rfl (row_one _ wr.heap.size rfl 17) (by omega) (by omega) (by simp; omega) ?_; intro v2 w2 hown2 hb2)
                have HJ3 := hide (hJ2.out.snoc (x := 17) hb2 hown2)
                have HD3 := hide hD2.out.more
                clear hown2 hb2 HOW hJ2 hsz hD2
                obtain ⟨a2, c2, rfl, _⟩ := owns_form HJ3.out.own
                go_wp2
                go_roundw
                case rel => exact ⟨j + 1, oe + 1, es2 ++ [17], by omega, by go_num, hide (by have := he2.out; simp; omega), HD3, HJ3⟩
                case measure => simp [intOf]; omega
              · have hjm2 : j = m := by omega
                have hjI : ¬ (j : Int) < (m : Int) := by omega
                have HJ := hJ2
                rw [hjm2] at HJ hJ2
                obtain ⟨a5, c5, rfl, _⟩ := owns_form hJ2.out.own
                clear hJ2
                have HEL : Hid (es2.length = m) := hide (by have := he2.out; omega)
                have HDF := hide (hD2.out)
                have HOW := hide HJ.out.own
                have hsz := HJ.out.bel.size
                go_wp2_with (at_builtin; refine wpList_append_row _ rfl (.tmp 64) (.tmp 65) 22 rfl w1.heap.size 3 ii (.int .i64 0) 8 Try.underlying22 HII.out HY0.out HY1.out HY2.out rfl _ m _ rfl (HOW.out.alloc _) .i64 _ 1 1 [1] rfl (row_one _ wr.heap.size rfl 1) (by omega) (by omega) (by simp; omega) ?_; intro v2 w2 hown2 hb2)
                have HJ1 := hide (HJ.out.snoc (x := 1) hb2 hown2)
                clear hown2 hb2 HOW HJ hsz
                obtain ⟨a2, c2, rfl, _⟩ := owns_form HJ1.out.own
                go_wp2_with fail
                go_loopw [5, 12] (fun s5 s12 wr => ∃ j : Nat, j ≤ m ∧ s12 = .int .i64 (j : Int) ∧ Hid (RJ w1 (Ex.dl es2 j) (m + 1 + j) s5 wr)) (fun _ s12 _ => m - (intOf s12).toNat)
                case atStart => exact ⟨0, Nat.zero_le _, rfl, hide (by rw [Ex.dl_zero]; exact HJ1.out)⟩
                case round =>
                  clear HJ1
                  obtain ⟨j, hj, rfl, hJ⟩ := hrel
                  by_cases hjm : j < m
                  · have hjI : (j : Int) < (m : Int) := by omega
                    have HOW := hide hJ.out.own
                    have hsz := hJ.out.bel.size
                    go_wp2_with (at_builtin; refine wpList_append_row _ rfl (.tmp 72) (.tmp 73) 22 rfl w1.heap.size 3 ii (.int .i64 0) 8 Try.underlying22 HII.out HY0.out HY1.out HY2.out rfl _ (m + 1 + j) _ rfl (HOW.out.alloc _) .i64 _ 1 1 [19] rfl (row_one _ wr.heap.size rfl 19) (by omega) (by omega) (by simp; omega) ?_; intro v2 w2 hown2 hb2)
                    have HJ2 := hide (hJ.out.snoc (x := 19) hb2 hown2)
                    clear hown2 hb2 HOW hJ hsz
                    obtain ⟨a2, c2, rfl, _⟩ := owns_form HJ2.out.own
                    go_wp2
                    go_roundw
                    case rel => exact ⟨j + 1, by omega, by go_num, hide (by rw [Ex.dl_succ]; exact HJ2.out)⟩
                    case measure => simp [intOf]; omega
                  · obtain rfl : j = m := by omega
                    have hjI : ¬ (j : Int) < (j : Int) := by omega
                    have HOW := hide hJ.out.own
                    have hsz := hJ.out.bel.size
                    go_wp2_with (at_builtin; refine wpList_append_row _ rfl (.tmp 75) (.tmp 76) 22 rfl w1.heap.size 3 ii (.int .i64 0) 8 Try.underlying22 HII.out HY0.out HY1.out HY2.out rfl _ (j + 1 + j) _ rfl (HOW.out.alloc _) .i64 _ 1 1 [2] rfl (row_one _ wr.heap.size rfl 2) (by omega) (by omega) (by simp; omega) ?_; intro v2 w2 hown2 hb2)
                    have hJ2 := hJ.out.snoc (x := 2) hb2 hown2
                    have hdc : Ex.dl es2 j ++ [2] = Ex.dc es2 := by unfold Ex.dc; rw [HEL.out]
                    rw [hdc] at hJ2
                    clear hown2 hb2 HOW hJ hsz
                    obtain ⟨N, hN0⟩ : ∃ N, j + 1 + j + 1 = N := ⟨_, rfl⟩
                    rw [hN0] at hJ2
                    obtain ⟨a3, c3, rfl, hr3⟩ := row_of_owns hJ2.own
                    have HRS := hide (resolve_ok a3 N c3 (Ex.dc es2) 0 w2 hr3 (by omega) (.inl rfl) HDF.out.formed)
                    have HB := hide (HB1.out.trans (hJ2.bel.mono HB1.out.size))
                    have hdl := hr3.len
                    clear hJ2 hr3
                    go_wp2_with fail
                    refine HRS.out.mono ?_
                    rintro e w4 ⟨bl, bt, rfl, rl, rt, hb4⟩
                    have cm1 := row_cell rl (k := j) (by omega)
                    have cm2 := row_cell rl (k := 2 * j + 1) (by omega)
                    rw [Ex.LV_at 0 _ j (by omega)] at cm1
                    rw [Ex.LV_at 0 _ (2 * j + 1) (by omega)] at cm2
                    have em1 := HDF.out.mid
                    have em2 := HDF.out.last
                    rw [HEL.out] at em1 em2
                    rw [em1] at cm1
                    rw [em2] at cm2
                    have HBF := hide (HB.out.trans (hb4.mono HB.out.size))
                    have hN : (N : Int) = 2 * (j : Int) + 2 := by omega
                    have hNe : ((N : Int) == 2 * (j : Int) + 2) = true := beq_iff_eq.2 hN
                    have hjN : (j : Int) < (N : Int) := by omega
                    have hjN2 : 2 * (j : Int) + 1 < (N : Int) := by omega
                    clear rl rt hb4 HRS HDF em1 em2 hdc HB hdl hN hN0
                    go_wp2_with fail
                    go_ret
                    exact ⟨ret_bool (by simp), HBF.out⟩
          · have HD1 := hide (HPU.out (by omega))
            clear HPU HOV enl
            go_wp2_with (at_builtin; refine wpList_append_row _ rfl (.tmp 38) (.tmp 40) 22 rfl w1.heap.size 3 ii (.int .i64 0) 8 Try.underlying22 HII.out HY0.out HY1.out HY2.out rfl _ k _ rfl (HOW.out.alloc _) .i64 _ 1 1 [15] rfl (row_one _ wr.heap.size rfl 15) (by omega) (by omega) (by simp; omega) ?_; intro v2 w2 hown2 hb2)
            have HJ1 := hide (HSN.out v2 w2 _ hb2 hown2)
            clear hown2 hb2 HOW HSN hsz
            obtain ⟨a2, c2, rfl, _⟩ := owns_form HJ1.out.own
            go_wp2
            go_roundw
            case rel => exact ⟨k + 1, l + 1, es ++ [15], by omega, by go_num, rfl, hide (by have := hek.out; simp; omega), HD1, HJ1⟩
            case measure => simp [intOf]; omega
    · have hkm : k = m := by omega
      have hne : ¬ ((k : Int) < (m : Int)) := by omega
      have HJ := hJ
      rw [hkm] at HJ hJ
      obtain ⟨a5, c5, rfl, _⟩ := owns_form hJ.out.own
      clear hJ HTB
      have HEL : Hid (es.length = m) := hide (by have := hek.out; omega)
      have HDF := hide (hD.out)
      have HOW := hide HJ.out.own
      have hsz := HJ.out.bel.size
      go_wp2_with (at_builtin; refine wpList_append_row _ rfl (.tmp 64) (.tmp 65) 22 rfl w1.heap.size 3 ii (.int .i64 0) 8 Try.underlying22 HII.out HY0.out HY1.out HY2.out rfl _ m _ rfl (HOW.out.alloc _) .i64 _ 1 1 [1] rfl (row_one _ wr.heap.size rfl 1) (by omega) (by omega) (by simp; omega) ?_; intro v2 w2 hown2 hb2)
      have HJ1 := hide (HJ.out.snoc (x := 1) hb2 hown2)
      clear hown2 hb2 HOW HJ hsz
      obtain ⟨a2, c2, rfl, _⟩ := owns_form HJ1.out.own
      go_wp2_with fail
      go_loopw [5, 12] (fun s5 s12 wr => ∃ j : Nat, j ≤ m ∧ s12 = .int .i64 (j : Int) ∧ Hid (RJ w1 (Ex.dl es j) (m + 1 + j) s5 wr)) (fun _ s12 _ => m - (intOf s12).toNat)
      case atStart => exact ⟨0, Nat.zero_le _, rfl, hide (by rw [Ex.dl_zero]; exact HJ1.out)⟩
      case round =>
        clear HJ1
        obtain ⟨j, hj, rfl, hJ⟩ := hrel
        by_cases hjm : j < m
        · have hjI : (j : Int) < (m : Int) := by omega
          have HOW := hide hJ.out.own
          have hsz := hJ.out.bel.size
          go_wp2_with (at_builtin; refine wpList_append_row _ rfl (.tmp 72) (.tmp 73) 22 rfl w1.heap.size 3 ii (.int .i64 0) 8 Try.underlying22 HII.out HY0.out HY1.out HY2.out rfl _ (m + 1 + j) _ rfl (HOW.out.alloc _) .i64 _ 1 1 [19] rfl (row_one _ wr.heap.size rfl 19) (by omega) (by omega) (by simp; omega) ?_; intro v2 w2 hown2 hb2)
          have HJ2 := hide (hJ.out.snoc (x := 19) hb2 hown2)
          clear hown2 hb2 HOW hJ hsz
          obtain ⟨a2, c2, rfl, _⟩ := owns_form HJ2.out.own
          go_wp2
          go_roundw
          case rel => exact ⟨j + 1, by omega, by go_num, hide (by rw [Ex.dl_succ]; exact HJ2.out)⟩
          case measure => simp [intOf]; omega
        · obtain rfl : j = m := by omega
          have hjI : ¬ (j : Int) < (j : Int) := by omega
          have HOW := hide hJ.out.own
          have hsz := hJ.out.bel.size
          go_wp2_with (at_builtin; refine wpList_append_row _ rfl (.tmp 75) (.tmp 76) 22 rfl w1.heap.size 3 ii (.int .i64 0) 8 Try.underlying22 HII.out HY0.out HY1.out HY2.out rfl _ (j + 1 + j) _ rfl (HOW.out.alloc _) .i64 _ 1 1 [2] rfl (row_one _ wr.heap.size rfl 2) (by omega) (by omega) (by simp; omega) ?_; intro v2 w2 hown2 hb2)
          have hJ2 := hJ.out.snoc (x := 2) hb2 hown2
          have hdc : Ex.dl es j ++ [2] = Ex.dc es := by unfold Ex.dc; rw [HEL.out]
          rw [hdc] at hJ2
          clear hown2 hb2 HOW hJ hsz
          obtain ⟨N, hN0⟩ : ∃ N, j + 1 + j + 1 = N := ⟨_, rfl⟩
          rw [hN0] at hJ2
          obtain ⟨a3, c3, rfl, hr3⟩ := row_of_owns hJ2.own
          have HRS := hide (resolve_ok a3 N c3 (Ex.dc es) 0 w2 hr3 (by omega) (.inl rfl) HDF.out.formed)
          have HB := hide (HB1.out.trans (hJ2.bel.mono HB1.out.size))
          have hdl := hr3.len
          clear hJ2 hr3
          go_wp2_with fail
          refine HRS.out.mono ?_
          rintro e w4 ⟨bl, bt, rfl, rl, rt, hb4⟩
          have cm1 := row_cell rl (k := j) (by omega)
          have cm2 := row_cell rl (k := 2 * j + 1) (by omega)
          rw [Ex.LV_at 0 _ j (by omega)] at cm1
          rw [Ex.LV_at 0 _ (2 * j + 1) (by omega)] at cm2
          have em1 := HDF.out.mid
          have em2 := HDF.out.last
          rw [HEL.out] at em1 em2
          rw [em1] at cm1
          rw [em2] at cm2
          have HBF := hide (HB.out.trans (hb4.mono HB.out.size))
          have hN : (N : Int) = 2 * (j : Int) + 2 := by omega
          have hNe : ((N : Int) == 2 * (j : Int) + 2) = true := beq_iff_eq.2 hN
          have hjN : (j : Int) < (N : Int) := by omega
          have hjN2 : 2 * (j : Int) + 1 < (N : Int) := by omega
          clear rl rt hb4 HRS HDF em1 em2 hdc HB hdl hN hN0
          go_wp2_with fail
          go_ret
          exact ⟨ret_bool (by simp), HBF.out⟩
end Go.Proofs.Ythoganddhoklpaa
