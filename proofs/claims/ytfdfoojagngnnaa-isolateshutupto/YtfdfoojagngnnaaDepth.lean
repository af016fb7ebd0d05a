/- Depth: in how many isolates places lie. -/
import Derived.Test.YtfdfoojagngnnaaMatch
namespace Go.Proofs.Ytfdfoojagngnnaa
open Go.RowKit
set_option linter.unusedVariables false
set_option maxHeartbeats 1000000
set_option maxRecDepth 100000
structure DI (w : World) (c : List Int) (n k : Nat) (wr : World) : Prop where
  own : wr.ownsRow w.heap.size 3 1 (.slice (some ⟨w.heap.size, 0, none⟩) n n) n ((Iso.DL c k).map (Value.int .i64))
  bel : Below w.heap.size w wr
theorem DI.set {w : World} {c : List Int} {n k : Nat} {wr : World} (h : DI w c n k wr) {d : Nat} (hd : Iso.dp c k = d) : DI w c n (k + 1) (wr.setCell ⟨w.heap.size, k, none⟩ (.int .i64 (d : Int))) := by
  have h1 := owns_set h.own k (d : Int)
  rw [← hd, ← Iso.DL_set] at h1
  exact ⟨by rw [← hd]; exact h1, h.bel.setCell (p := ⟨w.heap.size, k, none⟩) (Nat.le_refl _) _⟩
theorem depth_any (ao : Option Addr) (n cap : Nat) (c : List Int) (w : World) (h : Row .i64 w ao n cap c) (hn : n * 8 ≤ 140737488351232) :
    Calls Try.prog 13 #[.slice ao n cap] w fun e w' => e = .returned (.slice (some ⟨w.heap.size, 0, none⟩) n n) ∧ w'.ownsRow w.heap.size 3 1 (.slice (some ⟨w.heap.size, 0, none⟩) n n) n ((Iso.DP c).map (Value.int .i64)) ∧ Below w.heap.size w w' := by
  obtain ⟨ii, hii, hy0, hy1, hy2⟩ := info_parts infoInt
  have HII : Hid (Try.prog.info? 3 = some ii) := hii
  have HY0 := hide hy0
  have HY1 := hide hy1
  have HY2 := hide hy2
  have H := hide h
  have HL := hide h.len
  have HN := hide hn
  have hn2 : n ≤ 17592186044416 := by omega
  clear h hn hii hy0 hy1 hy2
  go_enter Try.func13, Try.ntmps13
  go_wp2_with (at_make; refine wpList_make_full _ rfl _ _ 22 rfl w.heap.size 3 ii (.int .i64 0) 1 Try.underlying22 HII.out HY0.out HY1.out _ _ _ _ n rfl rfl rfl rfl ?b2 ?b3 (Nat.le_refl _) ?_)
  case b2 => rw [HY2.out]; omega
  case b3 => unfold maxLen; omega
  intro w1 hown hgrow
  have hbel := (Below.refl w.heap.size w).grown hgrow (Nat.le_refl _) (fun _ h => by cases h)
  have HO : Hid (DI w c n 0 w1) := by
    refine ⟨?_, hbel⟩
    have e : (madeCells #[Value.int .i64 0] n).toList = (Iso.DL c 0).map (Value.int .i64) := by
      rw [Iso.DL_zero, HL.out]
      simp [toList_madeCells_one]
    rw [← e]
    simpa using hown
  clear hown hgrow hbel
  go_wp2
  go_loopw [4, 13] (fun sv i wr => ∃ k L : Nat, k ≤ n ∧ i = .int .i64 k ∧ sv = .int .i64 (L : Int) ∧ L ≤ k ∧ Hid ((Iso.stk c k).length = L) ∧ Hid (DI w c n k wr)) (fun _ i _ => n - (intOf i).toNat)
  case atStart => exact ⟨0, 0, Nat.zero_le _, rfl, rfl, Nat.le_refl _, rfl, HO⟩
  case round =>
    obtain ⟨k, L, hk, rfl, rfl, hLk, hL, hm⟩ := hrel
    by_cases hlt : k < n
    · have hkl : k < c.length := by rw [HL.out]; exact hlt
      obtain ⟨b, off, rfl, hbl, hc⟩ := H.out.cells (by omega)
      have ck : wr.cell? ⟨b, off + k, none⟩ = some (.int .i64 (c.getD k 0)) := (hm.out.bel.cell (by exact hbl)).trans (hc k hkl)
      have HT := hide (fun w' => turn_any (c.getD k 0) w')
      have co := owns_cell hm.out.own k hlt
      have hfz := hm.out.own.frozenAt k
      generalize (Iso.DL c k).getD k 0 = old at co
      have hin : (k : Int) < (n : Int) := by omega
      have hgb : ¬ w.heap.size = b := by have hbl2 : b < w.heap.size := hbl; omega
      have HNX := hide (Iso.stk_nx c k)
      have hl := hL.out
      clear hc
      by_cases hs : Iso.st (c.getD k 0) = true
      · have ht : Iso.turn (c.getD k 0) = 1 := by unfold Iso.turn; rw [if_pos hs]
        rw [ht] at HT
        have HD := hide (hm.out.set (d := L) (by unfold Iso.dp; rw [if_neg (Iso.st_23 hs)]; exact hl))
        have HE := hide (show (Iso.stk c (k + 1)).length = L + 1 from by rw [HNX.out, Iso.nx, if_pos hs, hl])
        generalize c.getD k 0 = x at *
        clear hm ht hs hkl HNX hl hL
        go_wp2_with (go_at_call 18; refine (HT.out _).mono ?_; rintro e w' ⟨rfl, rfl⟩)
        go_roundw
        case rel => exact ⟨k + 1, L + 1, by omega, by go_num, by go_num, by omega, HE, HD⟩
        case measure => simp [intOf]; omega
      · by_cases hx : c.getD k 0 = 23
        · have ht : Iso.turn (c.getD k 0) = -1 := by unfold Iso.turn; rw [if_neg hs, if_pos hx]
          rw [ht] at HT
          have HD := hide (hm.out.set (d := L - 1) (by unfold Iso.dp; rw [if_pos hx, hl]))
          have HE := hide (show (Iso.stk c (k + 1)).length = L - 1 from by rw [HNX.out, Iso.nx, if_neg hs, if_pos hx, hl])
          generalize c.getD k 0 = x at *
          clear hm ht hs hkl HNX hl hL hx
          rcases Nat.eq_zero_or_pos L with rfl | hpos
          · go_wp2_with (go_at_call 18; refine (HT.out _).mono ?_; rintro e w' ⟨rfl, rfl⟩)
            go_roundw
            case rel => exact ⟨k + 1, 0, by omega, by go_num, by go_num, by omega, HE, HD⟩
            case measure => simp [intOf]; omega
          · obtain ⟨M, rfl⟩ : ∃ M, L = M + 1 := ⟨L - 1, by omega⟩
            rw [Nat.add_sub_cancel] at HD HE
            have hp : (0 : Int) < ((M + 1 : Nat) : Int) := by omega
            go_wp2_with (go_at_call 18; refine (HT.out _).mono ?_; rintro e w' ⟨rfl, rfl⟩)
            go_roundw
            case rel => exact ⟨k + 1, M, by omega, by go_num, by go_num, by omega, HE, HD⟩
            case measure => simp [intOf]; omega
        · have ht : Iso.turn (c.getD k 0) = 0 := by unfold Iso.turn; rw [if_neg hs, if_neg hx]
          rw [ht] at HT
          have HD := hide (hm.out.set (d := L) (by unfold Iso.dp; rw [if_neg hx]; exact hl))
          have HE := hide (show (Iso.stk c (k + 1)).length = L from by rw [HNX.out, Iso.nx, if_neg hs, if_neg hx, hl])
          generalize c.getD k 0 = x at *
          clear hm ht hs hkl HNX hl hL hx
          go_wp2_with (go_at_call 18; refine (HT.out _).mono ?_; rintro e w' ⟨rfl, rfl⟩)
          go_roundw
          case rel => exact ⟨k + 1, L, by omega, by go_num, by go_num, by omega, HE, HD⟩
          case measure => simp [intOf]; omega
    · obtain rfl : k = n := by omega
      have hne : ¬ ((k : Int) < (k : Int)) := by omega
      have HE := hide (show wr.ownsRow w.heap.size 3 1 (.slice (some ⟨w.heap.size, 0, none⟩) k k) k ((Iso.DP c).map (Value.int .i64)) from by
        have := hm.out.own; rw [← Iso.DL_end, HL.out]; exact this)
      have HB := hide hm.out.bel
      clear hm hlt hL
      go_wp2
      go_ret
      exact ⟨rfl, HE.out, HB.out⟩
end Go.Proofs.Ytfdfoojagngnnaa
