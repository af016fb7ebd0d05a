/- Show, by contract; the chapter's examples. -/
import Derived.Test.YtchpdokjalbpnaaDoorGm14
import Derived.Test.YtchpdokjalbpnaaDoorRunes
import Derived.WalkArith
namespace Go.Proofs.YtchpdokjalbpnaaDoor
open Go.RowKit
set_option linter.unusedVariables false
set_option maxHeartbeats 1600000
set_option maxRecDepth 100000
theorem row_any32 {w : World} {base n : Nat} {v : Value} {zs : List Int} (h : w.ownsRow base 21 1 v n (zs.map (Value.int .i32))) : ∃ a c, v = .slice a zs.length c ∧ Row .i32 w a zs.length c zs := by
  have hl : zs.length = n := by have := h.1; simpa using this
  subst hl
  exact row_of_owns h
/-- What Show answers. -/
def SA (l lv S : List Int) (E : Int) : Prop := (l.length = lv.length ∧ Od.Fo lv ∧ S = Mi.SW l lv ∧ E = 0) ∨ (¬ (l.length = lv.length ∧ Od.Fo lv) ∧ S = [] ∧ E = 2)
theorem SA_some (l lv : List Int) : ∃ S E, SA l lv S E := by
  by_cases h : l.length = lv.length ∧ Od.Fo lv
  · exact ⟨_, _, .inl ⟨h.1, h.2, rfl, rfl⟩⟩
  · exact ⟨_, _, .inr ⟨h, rfl, rfl⟩⟩
theorem show_any (al av : Option Addr) (n m cl cv : Nat) (l lv : List Int) (w : World) (hl : Row .i32 w al n cl l) (hv : Row .i64 w av m cv lv) (hw : ∀ x ∈ l, (Lit.int .i32 x).wf = true) (hn : n * 4 ≤ 281474976710656) (hm : m * 8 ≤ 281474976702464) (K : Nat) (hK : (Od.RR lv).length ≤ K) (hKN : K * 24 ≤ 140737488355328) (hM : Marks w) (S : List Int) (E : Int) (hA : SA l lv S E) :
    Calls Tryd.prog 11 #[.slice al n cl, .slice av m cv] w fun e w' => ∃ a c, e = .returned (.tuple #[.slice a S.length c, .int .i64 E]) ∧ Row .i32 w' a S.length c S ∧ KO w w' := by
  have hll := hl.len
  have hvl := hv.len
  by_cases hnm : n = m
  · subst hnm
    have hnn : ((n : Int) != (n : Int)) = false := by simp
    by_cases hf : Od.Fo lv
    · rcases hA with ⟨_, _, hS, hE⟩ | ⟨h, _⟩
      · subst hE
        have HR := hide (runs_ok av n cv lv w hv hf hm K hK hKN)
        have HG := hide (fun (a : Option Addr) (c : Nat) (w' : World) (hp : RL w' a c (Od.RR lv)) (hk : KO w w') => glyphs_any al av a n cl cv c l lv (Od.RR lv) w' (hl.below hk) (hv.below hk) hp (Od.RR_flat lv) hf hw hn (hM.below hk))
        rw [← hS] at HG
        clear hS hl hv hw hM hf hll hvl hK
        generalize Od.RR lv = R at *
        obtain ⟨N, hN⟩ : ∃ N, R.length = N := ⟨_, rfl⟩
        rw [hN] at HR HG
        clear hN
        go_enter Tryd.func11, Tryd.ntmps11
        go_wp2_with (first
          | (go_at_call 19; refine HR.out.mono ?_; rintro e w1 ⟨a, c, rfl, hr1, hk1⟩; have HG1 := hide (HG.out a c w1 hr1 hk1); have HK1 := hide hk1; clear hr1 hk1)
          | (go_at_call 20; refine HG1.out.mono ?_; rintro e w2 ⟨v, rfl, ho2, hk2⟩; obtain ⟨a2, c2, ev, hr2⟩ := row_any32 ho2; subst ev; have HR2 := hide hr2; have HK2 := hide (KO.on HK1.out hk2); clear ho2 hk2 hr2))
        go_ret2
        exact ⟨a2, c2, rfl, HR2.out, HK2.out⟩
      · exact absurd ⟨by rw [hll, hvl], hf⟩ h
    · rcases hA with ⟨_, h, _⟩ | ⟨_, rfl, rfl⟩
      · exact absurd h hf
      · have HR := hide (runs_bad av n cv lv w hv hf)
        clear hl hv hw hM hf hll hvl
        go_enter Tryd.func11, Tryd.ntmps11
        go_wp2_with (go_at_call 19; refine HR.out.mono ?_; rintro e w1 ⟨rfl, rfl⟩)
        go_ret2
        exact ⟨none, 0, rfl, row_nil _ _, KO.refl _⟩
  · have hnn : ((n : Int) != (m : Int)) = true := bne_iff_ne.2 (by omega)
    rcases hA with ⟨h, _⟩ | ⟨_, rfl, rfl⟩
    · exact absurd (by rw [← hll, ← hvl]; exact h) hnm
    · clear hl hv hw hM hll hvl
      go_enter Tryd.func11, Tryd.ntmps11
      go_wp2
      go_ret2
      exact ⟨none, 0, rfl, row_nil _ _, KO.refl _⟩
theorem RR_le (lv : List Int) : (Od.RR lv).length ≤ lv.length := Nat.le_trans (Od.rows_le lv _ _) (by rw [Od.OD_len]; exact Od.K_le lv)
theorem SW_wf {l lv : List Int} (hf : Od.Fo lv) (hl : l.length = lv.length) (hw : ∀ x ∈ l, (Lit.int .i32 x).wf = true) : ∀ x ∈ Mi.SW l lv, (Lit.int .i32 x).wf = true := by
  intro x hx
  unfold Mi.SW at hx
  obtain ⟨i, hi, rfl⟩ := List.mem_map.1 hx
  have h1 := Od.OD_lt hf hi
  have h2 := bounds_i32 (hw (l.getD i 0) (by simp [List.getD, show i < l.length by omega]))
  exact WalkArith.wf_i32 (Mi.gl_ok (by omega))
theorem ex14a : SA [97, 40, 98] [0, 1, 1] [97, 98, 41] 0 := .inl ⟨rfl, by decide, by decide +kernel, rfl⟩
theorem ex14b : SA [97, 8203, 98] [0, -1, 0] [97, 98] 0 := .inl ⟨rfl, by decide, by decide +kernel, rfl⟩
theorem exs14 (w : World) (hM : Marks w) (a b c x y z : Int) (S : List Int) (hw : ∀ x ∈ [a, b, c], (Lit.int .i32 x).wf = true) (hA : SA [a, b, c] [x, y, z] S 0) :
    Calls Tryd.prog 11 #[.slice (some ⟨w.heap.size, 0, none⟩) 3 3, .slice (some ⟨w.heap.size + 1, 0, none⟩) 3 3] ((w.alloc (.cells #[.int .i32 a, .int .i32 b, .int .i32 c] 21)).alloc (.cells #[.int .i64 x, .int .i64 y, .int .i64 z] 3)) fun e w' =>
      ∃ a c, e = .returned (.tuple #[.slice a S.length c, .int .i64 0]) ∧ Row .i32 w' a S.length c S ∧ KO w w' := by
  have h1 := row_lit .i32 w [a, b, c] 21 (by simp [maxLen])
  have hka : KO (w.alloc (.cells #[.int .i32 a, .int .i32 b, .int .i32 c] 21)) ((w.alloc (.cells #[.int .i32 a, .int .i32 b, .int .i32 c] 21)).alloc (.cells #[.int .i64 x, .int .i64 y, .int .i64 z] 3)) := KO.alloc (KO.refl _) _
  have h2 := row_lit .i64 (w.alloc (.cells #[.int .i32 a, .int .i32 b, .int .i32 c] 21)) [x, y, z] 3 (by simp [maxLen])
  have hs : (w.alloc (.cells #[.int .i32 a, .int .i32 b, .int .i32 c] 21)).heap.size = w.heap.size + 1 := by simp
  rw [hs] at h2
  refine (show_any _ _ 3 3 3 3 [a, b, c] [x, y, z] _ (h1.below hka) h2 hw (by omega) (by omega) 3 (RR_le _) (by omega) (hM.below (KO.on (KO.alloc (KO.refl w) _) hka)) S 0 hA).mono ?_
  rintro e w' ⟨a, c, rfl, hr, hk⟩
  exact ⟨a, c, rfl, hr, KO.on (KO.alloc (KO.refl w) _) (KO.on hka hk)⟩
theorem works14_any (w : World) (hM : Marks w) : Calls Tryd.prog 10 #[] w fun e w' => e = .returned (.bool true) ∧ KO w w' := by
  have HA := hide (exs14 w hM 97 40 98 0 1 1 _ (by decide) ex14a)
  have HB := hide (fun (w' : World) (hk : KO w w') => exs14 w' (hM.below hk) 97 8203 98 0 (-1) 0 _ (by decide) ex14b)
  clear hM
  simp only [List.length_cons, List.length_nil] at HA HB
  go_enter Tryd.func10, Tryd.ntmps10
  go_wp2_with fail
  refine HA.out.mono ?_
  rintro e w1 ⟨a1, c1, rfl, hr1, hk1⟩
  have K1 := hide hk1
  have N1 := hide (show Row .i32 w1 a1 3 c1 [97, 98, 41] from hr1)
  have HB1 := hide (HB.out w1 hk1)
  clear hr1 hk1 HA HB
  go_wp2_with fail
  refine HB1.out.mono ?_
  rintro e w2 ⟨a2, c2, rfl, hr2, hk2⟩
  have K2 := hide hk2
  have N2 := hide (show Row .i32 w2 a2 2 c2 [97, 98] from hr2)
  clear hr2 hk2 HB1
  have hka : KO w2 (w2.alloc (.cells #[.int .i32 97, .int .i32 98, .int .i32 41] 21)) := KO.alloc (KO.refl _) _
  have HI1 := hide (runes_yes a1 (some ⟨w2.heap.size, 0, none⟩) 3 c1 3 [97, 98, 41] _ (N1.out.below (KO.on K2.out hka)) (row_lit .i32 w2 [97, 98, 41] 21 (by decide)))
  have KA1 := hide hka
  clear hka
  go_wp2_with fail
  refine HI1.out.mono ?_
  rintro e w5 ⟨rfl, hd5⟩
  have K5 := hide (show KO w2 w5 from KO.on KA1.out (below_of_drewN hd5))
  clear hd5 HI1 KA1
  have hka : KO w5 (w5.alloc (.cells #[.int .i32 97, .int .i32 98] 21)) := KO.alloc (KO.refl _) _
  have HI2 := hide (runes_yes a2 (some ⟨w5.heap.size, 0, none⟩) 2 c2 2 [97, 98] _ (N2.out.below (KO.on K5.out hka)) (row_lit .i32 w5 [97, 98] 21 (by decide)))
  have KA2 := hide hka
  clear hka
  go_wp2_with fail
  refine HI2.out.mono ?_
  rintro e w6 ⟨rfl, hd6⟩
  have K6 := hide (show KO w5 w6 from KO.on KA2.out (below_of_drewN hd6))
  clear hd6 HI2 KA2
  go_wp2
  go_ret
  exact ⟨rfl, KO.on K1.out (KO.on K2.out (KO.on K5.out K6.out))⟩
end Go.Proofs.YtchpdokjalbpnaaDoor
