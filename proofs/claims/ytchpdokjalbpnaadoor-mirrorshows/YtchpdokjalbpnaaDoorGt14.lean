/- The document's Show, by contract. -/
import Derived.Test.YtchpdokjalbpnaaDoorGs14
import Derived.Test.YtchpdokjalbpnaaDoorGr14
namespace Go.Proofs.YtchpdokjalbpnaaDoor
open Go.RowKit
set_option linter.unusedVariables false
set_option maxHeartbeats 1600000
set_option maxRecDepth 100000
theorem rshow_any (al av : Option Addr) (n m cl cv : Nat) (l lv : List Int) (w : World) (hl : Row .i32 w al n cl l) (hv : Row .i64 w av m cv lv) (hm : m ≤ 100000) (S : List Int) (E : Int) (hA : SA l lv S E) :
    Calls Tryd.prog 12 #[.slice al n cl, .slice av m cv] w fun e w' => ∃ a c, e = .returned (.tuple #[.slice a S.length c, .int .i64 E]) ∧ Row .i32 w' a S.length c S ∧ KO w w' := by
  have hll := hl.len
  have hvl := hv.len
  by_cases hnm : n = m
  · subst hnm
    have hnn : ((n : Int) != (n : Int)) = false := by simp
    by_cases hf : Od.Fo lv
    · rcases hA with ⟨_, _, hS, hE⟩ | ⟨h, _⟩
      · subst hE
        have HR := hide (rorder_any av n cv lv w hv hm (Od.ON lv) 0 (.inl ⟨hf, rfl, rfl⟩))
        have HAT : Hid (∀ k, k < (Od.ON lv).length → ∃ p : Nat, p < n ∧ (Od.ON lv).getD k 0 = (p : Int) ∧ S.take (k + 1) = S.take k ++ [Mi.gl (l.getD p 0) (lv.getD p 0)]) := hide (fun k hk => by
          rw [Od.ON_len] at hk
          refine ⟨(Od.OD lv).getD k 0, ?_, Od.ON_at hk, ?_⟩
          · have := Od.OD_lt hf (Od.OD_in hk)
            omega
          · rw [hS]
            exact Mi.SW_next hk)
        have HSL : Hid (S.length = (Od.ON lv).length) := hide (by rw [hS, Mi.SW_len, Od.ON_len])
        have hLn : (Od.ON lv).length ≤ n := by
          have h1 := Od.K_le lv
          rw [Od.ON_len, Od.OD_len]
          omega
        have HL := hide hl
        have HV := hide hv
        have HLl := hide hll
        have HVl := hide hvl
        obtain ⟨ii, hii, hy0, hy1, hy2⟩ := info_parts infoRune14
        have HII : Hid (Tryd.prog.info? 21 = some ii) := hii
        have HY0 := hide hy0
        have HY1 := hide hy1
        have HY2 := hide hy2
        clear hS hl hv hf hll hvl hii hy0 hy1 hy2
        generalize Od.ON lv = L at *
        obtain ⟨M, hM⟩ : ∃ M, L.length = M := ⟨_, rfl⟩
        rw [hM] at HR HAT hLn HSL
        have HM := hide hM
        clear hM
        rw [HSL.out]
        go_enter Tryd.func12, Tryd.ntmps12
        go_wp2_with (go_at_call 21; refine HR.out.mono ?_; rintro e w1 ⟨ap, cp, rfl, hp1, hk1⟩; have HP := hide hp1; have HK1 := hide hk1; clear hp1 hk1)
        go_loopw [8, 9] (fun s8 s9 W => ∃ (va : Value) (k : Nat), va = s8 ∧ s9 = .int .i64 (k : Int) ∧ k ≤ M ∧ Hid (W.ownsRow w1.heap.size 21 1 va k ((S.take k).map (Value.int .i32))) ∧ Hid (KO w1 W)) (fun _ s9 _ => M - (intOf s9).toNat)
        case atStart => exact ⟨_, 0, rfl, rfl, Nat.zero_le _, hide (World.ownsRow_nil _ _ _ _), hide (KO.refl _)⟩
        case round =>
          obtain ⟨va, k, hva, rfl, hk, hown, hkw⟩ := hrel
          subst hva
          by_cases hlt : k < M
          · have hin : (k : Int) < (M : Int) := by omega
            obtain ⟨p, hp1, hp2, hp4⟩ := HAT.out k hlt
            obtain ⟨bp, op, ep, hbp, hcp⟩ := HP.out.cells (by omega)
            subst ep
            obtain ⟨bl, ol, el, hbl, hcl⟩ := HL.out.cells (by omega)
            subst el
            obtain ⟨bv, ov, ev, hbv, hcv⟩ := HV.out.cells (by omega)
            subst ev
            have c5 := hcp k (by rw [HM.out]; exact hlt)
            rw [hp2] at c5
            have cl0 := (Below.cell HK1.out (by exact hbl)).trans (hcl p (by rw [HLl.out]; exact hp1))
            have cv0 := (Below.cell HK1.out (by exact hbv)).trans (hcv p (by rw [HVl.out]; exact hp1))
            have hsz := HK1.out.size
            have hpn : (p : Int) < (n : Int) := by omega
            have hcP : ∀ W, KO w1 W → W.cell? ⟨bp, op + k, none⟩ = some (.int .i64 (p : Int)) := fun W hk => (Below.cell hk (by exact hbp)).trans c5
            have hcL : ∀ W, KO w1 W → W.cell? ⟨bl, ol + p, none⟩ = some (.int .i32 (l.getD p 0)) := fun W hk => (Below.cell hk (by show bl < _; omega)).trans cl0
            have hcV : ∀ W, KO w1 W → W.cell? ⟨bv, ov + p, none⟩ = some (.int .i64 (lv.getD p 0)) := fun W hk => (Below.cell hk (by show bv < _; omega)).trans cv0
            have hK0 : KO w1 wr := hkw.out
            have hKd : KO w1 wr.drew := KO.drew hkw.out
            have HG := hide (rglyph_any (l.getD p 0) (lv.getD p 0) wr.drew)
            have HP4 := hide hp4
            have hs1 : w1.heap.size ≤ wr.heap.size := hkw.out.size
            clear hcp hcl hcv cl0 cv0 hp2 hp4 c5
            generalize Mi.gl (l.getD p 0) (lv.getD p 0) = g at *
            generalize l.getD p 0 = x at *
            generalize lv.getD p 0 = y at *
            go_wp2
            refine wp_region_noPanic ?_
            go_region_held_law (fun w' => KO w1 w') (first | assumption | exact KO.alloc (by assumption) _)
              (first
                | (go_at_call 9; refine HG.out.mono ?_; rintro e w5 ⟨rfl, hk5⟩; have hk5' : KO w1 w5 := KO.on hKd hk5)
                | (refine step_append_row _ rfl (.tmp 29) (.tmp 45) 25 rfl w1.heap.size 21 ii (.int .i32 0) 4 Tryd.underlying25 HII.out HY0.out HY1.out HY2.out rfl _ k _ rfl ((owns_below (World.ownsRow.drew hown.out) hk5).alloc _) .i32 _ 1 1 [g] rfl (row_lit .i32 w5 [g] 21 (by unfold maxLen; simp)) (by omega) (by omega) (by have := hk5'.size; simp; omega) ?_; intro v6 w6 ho6 hb6; have hk6 : KO w1 w6 := Below.trans (KO.alloc hk5' _) hb6))
            all_goals (
              refine NoPanic.normal ?_
              go_simp
              have HM6 := hide (show w6.ownsRow w1.heap.size 21 1 v6 (k + 1) ((S.take (k + 1)).map (Value.int .i32)) from by rw [HP4.out, List.map_append]; exact ho6)
              have HK6 := hide hk6
              clear ho6 hb6 hk6 hk5 hk5' hKd hK0 hcL hcV hcP
              go_wp2
              go_roundw
              case rel => exact ⟨_, k + 1, rfl, by go_num, by omega, HM6, HK6⟩
              case measure => simp [intOf]; omega)
          · obtain rfl : M = k := by omega
            have hne : ¬ (M : Int) < (M : Int) := by omega
            have hSt : S.take M = S := by rw [← HSL.out, List.take_length]
            have ho := hown.out
            rw [hSt] at ho
            obtain ⟨a6, c6, ev6, hr6⟩ := row_of_owns ho
            subst ev6
            have HR6 := hide hr6
            have HK6 := hide (KO.on HK1.out hkw.out)
            clear ho hown hkw hr6 hSt
            go_wp2
            go_ret2
            exact ⟨a6, c6, rfl, HR6.out, HK6.out⟩
      · exact absurd ⟨by rw [hll, hvl], hf⟩ h
    · rcases hA with ⟨_, h, _⟩ | ⟨_, rfl, rfl⟩
      · exact absurd h hf
      · have HR := hide (rorder_any av n cv lv w hv hm [] 2 (.inr ⟨hf, rfl, rfl⟩))
        clear hl hv hf hll hvl
        go_enter Tryd.func12, Tryd.ntmps12
        go_wp2_with (go_at_call 21; refine HR.out.mono ?_; rintro e w1 ⟨a, c, rfl, hr1, hk1⟩; have HK1 := hide hk1; clear hk1 hr1)
        go_ret2
        exact ⟨none, 0, rfl, row_nil _ _, HK1.out⟩
  · have hnn : ((n : Int) != (m : Int)) = true := bne_iff_ne.2 (by omega)
    rcases hA with ⟨h, _⟩ | ⟨_, rfl, rfl⟩
    · exact absurd (by rw [← hll, ← hvl]; exact h) hnm
    · clear hl hv hll hvl
      go_enter Tryd.func12, Tryd.ntmps12
      go_wp2
      go_ret2
      exact ⟨none, 0, rfl, row_nil _ _, KO.refl _⟩
end Go.Proofs.YtchpdokjalbpnaaDoor
