/- The document's Depth. -/
import Derived.Test.YtfdfoojagngnnaaRefm6
namespace Go.Proofs.Ytfdfoojagngnnaa
open Go.RowKit
set_option linter.unusedVariables false
set_option maxHeartbeats 1000000
set_option maxRecDepth 100000
theorem rdepth_any (ao : Option Addr) (n cap : Nat) (c : List Int) (w : World) (h : Row .i64 w ao n cap c) (hn : n ≤ 200) :
    Calls Try.prog 14 #[.slice ao n cap] w fun e w' => ∃ a1 c1, e = .returned (.slice a1 n c1) ∧ Row .i64 w' a1 n c1 (Iso.DP c) ∧ Below w.heap.size w w' := by
  obtain ⟨ii, hii, hy0, hy1, hy2⟩ := info_parts infoInt
  have HII : Hid (Try.prog.info? 3 = some ii) := hii
  have HY0 := hide hy0
  have HY1 := hide hy1
  have HY2 := hide hy2
  have H := hide h
  have HL := hide h.len
  have HPA := hide (fun (w' : World) (hk : KO w w') (i : Nat) (hi : i < n) => partner_any ao n cap c i w' (h.below hk) (by omega) hi)
  clear h hii hy0 hy1 hy2
  go_enter Try.func14, Try.ntmps14
  go_wp2
  go_loopw [3, 4] (fun s3 s4 wr => ∃ k : Nat, k ≤ n ∧ s4 = .int .i64 (k : Int) ∧ Hid (RI w (dpP c k) k s3 wr)) (fun _ s4 _ => n - (intOf s4).toNat)
  case atStart => exact ⟨0, Nat.zero_le _, rfl, ⟨World.ownsRow_nil _ _ _ _, Below.refl _ _⟩⟩
  case round =>
    obtain ⟨k, hk, rfl, hm⟩ := hrel
    by_cases hlt : k < n
    · have hkl : k < c.length := by rw [HL.out]; exact hlt
      obtain ⟨b, off, rfl, hbl, hc⟩ := H.out.cells (by omega)
      have HC := hide (fun (j : Nat) (hj : j < n) => (show wr.cell? ⟨b, off + j, none⟩ = some (.int .i64 (c.getD j 0)) from (hm.out.bel.cell (by exact hbl)).trans (hc j (by rw [HL.out]; exact hj))))
      have hin : (k : Int) < (n : Int) := by omega
      have HOW := hide hm.out.own
      have hsz := hm.out.bel.size
      have HSN := hide (fun (x : Nat) (v2 : Value) (w2 : World) (o : Obj) (hx : x = Iso.dp c k) => RI.snoc (zs := dpP c k) (ys := dpP c (k + 1)) (k := k) (x := (x : Int)) (v2 := v2) (w2 := w2) (o := o) hm.out.bel (hy := by rw [dpP_succ, hx]))
      have HX := hide (Iso.dp_cnt c k hkl)
      have HCL := hide (Iso.cnt_le (fun j => Iso.st (c.getD j 0) && decide (k < Iso.partner c j)))
      have HBL := hide hm.out.bel
      obtain ⟨f, hf⟩ : ∃ f, Iso.cnt (fun j => Iso.st (c.getD j 0) && decide (k < Iso.partner c j)) = f := ⟨_, rfl⟩
      have HFS := hide (fun (j : Nat) => (show f (j + 1) = f j + (if (Iso.st (c.getD j 0) && decide (k < Iso.partner c j)) = true then 1 else 0) from by rw [← hf]; rfl))
      have HF0 := hide (show f 0 = 0 from by rw [← hf]; rfl)
      rw [hf] at HX HCL
      clear hc hm hkl hf
      go_wp2
      generalize wr = W at *
      go_loopw [5, 6] (fun s5 s6 wi => ∃ j q : Nat, j ≤ k ∧ s6 = .int .i64 (j : Int) ∧ s5 = .int .i64 (q : Int) ∧ q ≤ j ∧ Hid (f j = q) ∧ W = wi) (fun _ s6 _ => k - (intOf s6).toNat)
      case atStart => exact ⟨0, 0, Nat.zero_le _, rfl, rfl, Nat.le_refl _, HF0, rfl⟩
      case round =>
        obtain ⟨j, q, hj, rfl, rfl, hqj, hq, rfl⟩ := hrel
        by_cases hjk : j < k
        · have cj := HC.out j (by omega)
          have hjn : (j : Int) < (n : Int) := by omega
          have hjk2 : (j : Int) < (k : Int) := by omega
          have HTJ := hide (Starts_any (c.getD j 0) W)
          have HPJ := hide (HPA.out W HBL.out j (by omega))
          have hfs := HFS.out j
          rw [hq.out] at hfs
          generalize c.getD j 0 = y at *
          generalize Iso.partner c j = p at *
          cases hs : Iso.st y with
          | false =>
            rw [hs] at HTJ
            have HF := hide (show f (j + 1) = q from by rw [hfs, hs]; simp)
            clear hs hfs HC HSN HX
            go_wp2_with (go_at_call 19; refine HTJ.out.mono ?_; rintro e w' ⟨rfl, rfl⟩)
            go_roundw
            case rel => exact ⟨j + 1, q, by omega, by go_num, rfl, by omega, HF, trivial⟩
            case measure => simp [intOf]; omega
          | true =>
            rw [hs] at HTJ
            by_cases hp : k < p
            · have hp2 : (k : Int) < (p : Int) := by omega
              have HF := hide (show f (j + 1) = q + 1 from by rw [hfs, hs, decide_eq_true hp]; simp)
              clear hs hfs HC hp HSN HX
              go_wp2_with (first
                | (go_at_call 19; refine HTJ.out.mono ?_; rintro e w' ⟨rfl, rfl⟩)
                | (go_at_call 20; refine HPJ.out.mono ?_; rintro e w' ⟨rfl, rfl⟩))
              go_roundw
              case rel => exact ⟨j + 1, q + 1, by omega, by go_num, by go_num, by omega, HF, trivial⟩
              case measure => simp [intOf]; omega
            · have hp2 : ¬ (k : Int) < (p : Int) := by omega
              have HF := hide (show f (j + 1) = q from by rw [hfs, hs, decide_eq_false hp]; simp)
              clear hs hfs HC hp HSN HX
              go_wp2_with (first
                | (go_at_call 19; refine HTJ.out.mono ?_; rintro e w' ⟨rfl, rfl⟩)
                | (go_at_call 20; refine HPJ.out.mono ?_; rintro e w' ⟨rfl, rfl⟩))
              go_roundw
              case rel => exact ⟨j + 1, q, by omega, by go_num, by go_num, by omega, HF, trivial⟩
              case measure => simp [intOf]; omega
        · obtain rfl : j = k := by omega
          have hne : ¬ ((j : Int) < (j : Int)) := by omega
          have HQ := hide (hq.out.symm.trans HX.out)
          clear HC HX
          go_wp2_with (at_builtin; refine wpList_append_row _ rfl (.tmp 32) (.tmp 34) 22 rfl w.heap.size 3 ii (.int .i64 0) 8 Try.underlying22 HII.out HY0.out HY1.out HY2.out rfl _ j _ rfl (HOW.out.alloc _) .i64 _ 1 1 [(q : Int)] rfl (row_one _ W.heap.size rfl (q : Int)) (by omega) (by omega) (by simp; omega) ?_; intro v2 w2 hown2 hb2)
          have HM := hide (HSN.out _ v2 w2 _ HQ.out hb2 hown2)
          clear hown2 hb2 HSN
          go_wp2
          exact ⟨⟨j + 1, by omega, by go_num, HM⟩, by simp [intOf]; omega⟩
    · obtain rfl : k = n := by omega
      have hne : ¬ ((k : Int) < (k : Int)) := by omega
      have ho := hm.out.own
      rw [show dpP c k = Iso.DP c from by unfold dpP Iso.DP; rw [HL.out]] at ho
      obtain ⟨a1, c1, rfl, hr⟩ := row_of_owns ho
      have HR := hide hr
      have HB := hide hm.out.bel
      clear hm ho hr
      go_wp2
      go_ret
      exact ⟨a1, c1, rfl, HR.out, HB.out⟩
end Go.Proofs.Ytfdfoojagngnnaa
