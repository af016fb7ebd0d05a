/- ParaLines: which lines are between any breaks is as the document has it. -/
import Derived.Test.YteiljaecaahonabSame2
import Derived.Test.YteiljaecaahonabReflines
namespace Go.Proofs.Yteiljaecaahonab
open Go.RowKit
set_option linter.unusedVariables false
set_option maxHeartbeats 1000000
set_option maxRecDepth 100000
theorem drewN_below {w w' : World} (h : ∃ k, w' = w.drewN k) : Below w.heap.size w w' := by obtain ⟨k, rfl⟩ := h; exact belowD2 w k
theorem ex_lnE : lnE 0 1 [] = 0 := by decide
theorem ex_lnR : lnR 0 1 [] = [(0, 1)] := by decide
theorem pairs_lit (w : World) (x y : Nat) (t : TypeId) : Pairs (w.alloc (.cells #[.int .i64 (x : Int), .int .i64 (y : Int)] t)) (some ⟨w.heap.size, 0, none⟩) 1 1 [(x, y)] :=
  ⟨rfl, Nat.le_refl _, by unfold maxLen; omega, fun _ => ⟨w.heap.size, rfl, by simp, fun k hk => by
    obtain rfl : k = 0 := by omega
    constructor <;> (rw [World.cell?_alloc_mark]; rfl)⟩, fun h => by cases h⟩
theorem ParaLines_walk (w : World) (fr : Int) (hfr : (Lit.int .i64 fr).wf = true) (to : Int) (hto : (Lit.int .i64 to).wf = true) (a0 : Option Addr) (n0 cap0 : Nat) (bs : List Int) (h0 : Row .i64 w a0 n0 cap0 bs) (hf0 : ∀ x ∈ bs, (Lit.int .i64 x).wf = true) (hs0 : n0 * 8 ≤ 140737488351232) :
    Calls Try.prog 3 #[.int .i64 fr, .int .i64 to, .slice a0 n0 cap0] w fun e w' => e = .returned (.bool true) ∧ Below w.heap.size w w' := by
  obtain ⟨ii, hii, hy0, hy1, hy2⟩ := info_parts infoInt
  have HII : Hid (Try.prog.info? 3 = some ii) := hii
  have HY0 := hide hy0
  have HY1 := hide hy1
  have HY2 := hide hy2
  have H0 := hide h0
  have HN := hide hs0
  have HL := hide h0.len
  have hn2 : n0 ≤ 17592186044416 := by omega
  have HKA := hide (show KO w (w.alloc (.cells #[] 3)) from KO.alloc (KO.refl _) _)
  have hbd := build_pair
  have hbo := build_pair1
  clear hfr hto hf0 h0 hs0 hii hy0 hy1 hy2
  go_enter Try.func3, Try.ntmps3
  go_wp2_with (at_builtin; refine wpList_append_row _ rfl (.tmp 15) (.tmp 16) 22 rfl w.heap.size 3 ii (.int .i64 0) 8 Try.underlying22 HII.out HY0.out HY1.out HY2.out rfl _ 0 [] rfl (owns_empty w 3 w.heap.size rfl) .i64 a0 n0 cap0 bs rfl (H0.out.below HKA.out) (by have := HN.out; omega) (by omega) (by simp) ?_; intro v2 w2 hown2 hb2)
  rw [List.nil_append, Nat.zero_add] at hown2
  obtain ⟨a2, c2, rfl, hr2⟩ := row_of_owns hown2
  have k2 : KO w w2 := Below.trans HKA.out hb2
  have HR2 := hide hr2
  clear hown2 hb2 hr2
  refine (lines_any fr to a2 n0 c2 bs w2 HR2.out HN.out).mono ?_
  rintro e w3 ⟨a3, c3, rfl, hp3, hb3⟩
  have k3 : KO w w3 := KO.on k2 hb3
  have HP3 := hide hp3
  have HR3 := hide (HR2.out.below hb3)
  obtain ⟨ls, hls⟩ : ∃ ls, lnR fr to bs = ls := ⟨_, rfl⟩
  obtain ⟨er, her⟩ : ∃ er, lnE fr to bs = er := ⟨_, rfl⟩
  have HRL := hide (rlines_any fr to a0 n0 cap0 bs w3 (H0.out.below k3) HN.out)
  rw [hls, her] at HRL
  rw [hls] at HP3
  rw [hls, her]
  obtain ⟨m, hm⟩ : ∃ m, ls.length = m := ⟨_, rfl⟩
  rw [hm] at HRL HP3 ⊢
  clear hp3 hb3 hls her HR2 hm
  go_wp2_with fail
  refine HRL.out.mono ?_
  rintro e w4 ⟨a4, c4, rfl, hp4, hb4⟩
  have k4 : KO w w4 := KO.on k3 hb4
  have HP4 := hide hp4
  have HP34 := hide (HP3.out.below hb4)
  have HR4 := hide (HR3.out.below hb4)
  clear hp4 hb4 HP3 HR3 HRL
  go_wp2_with fail
  go_loopw [34] (fun v wr => ∃ k : Nat, k ≤ n0 ∧ v = .int .i64 (k : Int) ∧ Hid (KO w4 wr)) (fun v _ => n0 - (intOf v).toNat)
  case atStart => exact ⟨0, Nat.zero_le _, rfl, KO.refl _⟩
  case round =>
    obtain ⟨k, hk, rfl, hkr⟩ := hrel
    by_cases hlt : k < n0
    · obtain ⟨b0, o0, rfl, hb0, hc0⟩ := H0.out.cells (by omega)
      obtain ⟨b2, o2, rfl, hb2, hc2⟩ := HR4.out.cells (by omega)
      have g0 : wr.cell? ⟨b0, o0 + k, none⟩ = some (.int .i64 (bs.getD k 0)) := (Below.cell (KO.on k4 hkr.out) (by exact hb0)).trans (hc0 k (by rw [HL.out]; exact hlt))
      have g2 : wr.cell? ⟨b2, o2 + k, none⟩ = some (.int .i64 (bs.getD k 0)) := (Below.cell hkr.out (by exact hb2)).trans (hc2 k (by rw [HL.out]; exact hlt))
      generalize bs.getD k 0 = x at *
      have hin : (k : Int) < (n0 : Int) := by omega
      clear hc0 hc2
      go_wp2_with fail
      go_quiet (fail)
      go_wp2
      go_roundw
      case rel => exact ⟨k + 1, by omega, by go_num, hide (KO.on hkr.out (belowD2 _ _))⟩
      case measure => simp [intOf]; omega
    · obtain rfl : k = n0 := by omega
      have HLN := hide (lines_any 0 1 none 0 0 [] wr (row_nil .i64 wr) (by omega))
      rw [ex_lnE, ex_lnR] at HLN
      have hne : ¬ ((k : Int) < (k : Int)) := by omega
      have k5 : KO w wr := KO.on k4 hkr.out
      have HP3 := hide (HP34.out.below hkr.out)
      have HP5 := hide (HP4.out.below hkr.out)
      clear hlt hkr HP34 HP4
      go_wp2_with fail
      refine HLN.out.mono ?_
      rintro e w6 ⟨a6, c6, rfl, hp6, hb6⟩
      have k6 : KO w w6 := KO.on k5 hb6
      have HS1 := hide (same2_yes a3 a4 m c3 c4 ls w6 (HP3.out.below hb6) (HP5.out.below hb6))
      have HP6 := hide hp6
      clear hp6 hb6 HP3 HP5
      go_wp2_with (go_at_call 10; refine (pnames_any _).mono ?_; rintro e w' ⟨rfl, rfl⟩)
      refine HS1.out.mono ?_
      rintro e w7 ⟨rfl, hd7⟩
      have hb7 := drewN_below hd7
      have k7 : KO w w7 := KO.on k6 hb7
      have hka : KO w7 (w7.alloc (.cells #[.int .i64 ((0 : Nat) : Int), .int .i64 ((1 : Nat) : Int)] 31)) := KO.alloc (KO.refl _) _
      have HS2 := hide (same2_yes a6 (some ⟨w7.heap.size, 0, none⟩) 1 c6 1 [(0, 1)] _ ((HP6.out.below hb7).below hka) (pairs_lit w7 0 1 31))
      have HKA2 := hide (KO.on k7 hka)
      clear hd7 hb7 hka
      go_wp2_with fail
      refine HS2.out.mono ?_
      rintro e w8 ⟨rfl, hd8⟩
      have k8 := KO.on HKA2.out (drewN_below hd8)
      clear hd8
      go_wp2_with fail
      go_ret
      exact ⟨ret_bool (by simp), k8⟩
end Go.Proofs.Yteiljaecaahonab
