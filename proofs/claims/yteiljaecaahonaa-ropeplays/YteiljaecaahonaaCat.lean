/- Contracts of Concat; Split and Concat refused. -/
import Derived.Test.YteiljaecaahonaaOps
namespace Go.Proofs.Yteiljaecaahonaa
open Go.RowKit
set_option linter.unusedVariables false
set_option maxHeartbeats 2000000
set_option maxRecDepth 100000
theorem Split_bad (b : Nat) (t : Tr) (i : Int) (w : World) (h : IsRope w b t) (hb : ¬ (0 ≤ i ∧ i ≤ (t.size : Int))) :
    Calls Try.prog 17 #[.pointer (some ⟨b, 0, none⟩), .int .i64 i] w fun e w' => e = .returned (.tuple #[.pointer none, .pointer none, .int .i64 4]) ∧ w = w' := by
  have HT := hide (stretch_rope b t i i w h)
  rw [bad_no (by omega)] at HT
  clear h hb
  go_enter Try.func17, Try.ntmps17
  go_wp2_with (go_at_call 43; refine HT.out.mono ?_; rintro e w' ⟨rfl, rfl⟩)
  refine bodyPost_ret (results_tmp3 rfl _ _ _) rfl ?_
  exact ⟨rfl, rfl⟩
theorem Split_nobody (p : Option Addr) (i : Int) (w : World) (h : Nobody w p) :
    Calls Try.prog 17 #[.pointer p, .int .i64 i] w fun e w' => e = .returned (.tuple #[.pointer none, .pointer none, .int .i64 1]) ∧ w = w' := by
  have HT := hide (stretch_nobody p i i w h)
  clear h
  go_enter Try.func17, Try.ntmps17
  go_wp2_with (go_at_call 43; refine HT.out.mono ?_; rintro e w' ⟨rfl, rfl⟩)
  refine bodyPost_ret (results_tmp3 rfl _ _ _) rfl ?_
  exact ⟨rfl, rfl⟩
theorem Concat_ok (a b : Nat) (s t : Tr) (w : World) (ha : IsRope w a s) (hb : IsRope w b t) (hs : s.size + t.size ≤ 1152921504606846976) :
    Calls Try.prog 18 #[.pointer (some ⟨a, 0, none⟩), .pointer (some ⟨b, 0, none⟩)] w fun e w' =>
      ∃ b' t', e = .returned (.tuple #[.pointer (some ⟨b', 0, none⟩), .int .i64 0]) ∧ IsRope w' b' t' ∧ t'.list = s.list ++ t.list ∧ Below w.heap.size w w' := by
  have HA := hide (stands_rope a s w ha)
  have HB := hide (stands_rope b t w hb)
  have HC := hide (fun w' (hk : KO w w') => concat_any s t w' (ha.lies.below hk) ha.bal (hb.lies.below hk) hb.bal hs)
  have ca := ha.top
  have cb := hb.top
  have hla := ha.lt
  have hlb := hb.lt
  obtain ⟨p, hp⟩ : ∃ p, s.at = p := ⟨_, rfl⟩
  obtain ⟨r, hr⟩ : ∃ r, t.at = r := ⟨_, rfl⟩
  rw [hp] at HC ca
  rw [hr] at HC cb
  have k0 : ∀ w', KO w w' → w'.cell? ⟨a, 1, none⟩ = some (.pointer p) := fun w' hk => (Below.cell hk (by exact hla)).trans ca
  have k1 : ∀ w', KO w w' → w'.cell? ⟨b, 1, none⟩ = some (.pointer r) := fun w' hk => (Below.cell hk (by exact hlb)).trans cb
  have hK := KO.refl w
  clear ha hb hs hla hlb hp hr ca cb
  by_cases hab : a = b
  · subst hab
    have hpr : p = r := by
      have h1 := k0 w hK
      have h2 := k1 w hK
      rw [h1] at h2
      simpa using h2
    subst hpr
    clear k1
    go_enter Try.func18, Try.ntmps18
    go_wp2_with (go_at_call 41; refine HA.out.mono ?_; rintro e w' ⟨rfl, rfl⟩)
    refine wp_region_noPanic ?_
    go_region_held (fun w' => KO w w') (first | assumption | exact KO.drew hK)
      (first
        | (go_at_call 45; refine (HC.out _ (by assumption)).mono ?_; rintro e w4 ⟨T, rfl, hT, hTi, hTb, hb4⟩; have hk4 : KO w w4 := KO.on (by assumption) hb4; have HTI := hide hTi; have HTL := hide hT; clear hTi hT)
        | (go_at_call 34; refine (ropeOf_any T _ HTL.out hTb).mono ?_; rintro e w5 ⟨b5, rfl, hr5, hb5⟩; have hk5 : KO w w5 := KO.on hk4 hb5))
    all_goals (
      refine NoPanic.normal ?_
      go_wp2
      go_ret2
      exact ⟨b5, T, rfl, hr5, HTI.out, hk5⟩)
  · go_enter Try.func18, Try.ntmps18
    go_wp2_with (first
      | (go_at_call_of 41 a; refine HA.out.mono ?_; rintro e w' ⟨rfl, rfl⟩)
      | (go_at_call_of 41 b; refine HB.out.mono ?_; rintro e w' ⟨rfl, rfl⟩))
    refine wp_region_noPanic ?_
    go_region_held (fun w' => KO w w') (first | assumption | exact KO.drew hK)
      (first
        | (go_at_call 45; refine (HC.out _ (by assumption)).mono ?_; rintro e w4 ⟨T, rfl, hT, hTi, hTb, hb4⟩; have hk4 : KO w w4 := KO.on (by assumption) hb4; have HTI := hide hTi; have HTL := hide hT; clear hTi hT)
        | (go_at_call 34; refine (ropeOf_any T _ HTL.out hTb).mono ?_; rintro e w5 ⟨b5, rfl, hr5, hb5⟩; have hk5 : KO w w5 := KO.on hk4 hb5))
    all_goals (
      refine NoPanic.normal ?_
      go_wp2
      go_ret2
      exact ⟨b5, T, rfl, hr5, HTI.out, hk5⟩)
theorem Concat_left (p : Option Addr) (v : Value) (w : World) (h : Nobody w p) :
    Calls Try.prog 18 #[.pointer p, v] w fun e w' => e = .returned (.tuple #[.pointer none, .int .i64 1]) ∧ w = w' := by
  have HT := hide (stands_nobody p w h)
  clear h
  go_enter Try.func18, Try.ntmps18
  go_wp2_with (go_at_call 41; refine HT.out.mono ?_; rintro e w' ⟨rfl, rfl⟩)
  go_ret2
  exact ⟨rfl, rfl⟩
theorem Concat_right (b : Nat) (t : Tr) (p : Option Addr) (w : World) (hr : IsRope w b t) (h : Nobody w p) :
    Calls Try.prog 18 #[.pointer (some ⟨b, 0, none⟩), .pointer p] w fun e w' => e = .returned (.tuple #[.pointer none, .int .i64 1]) ∧ w = w' := by
  have HA := hide (stands_rope b t w hr)
  have HT := hide (stands_nobody p w h)
  have hne : p ≠ some ⟨b, 0, none⟩ := by
    rcases h with rfl | ⟨d, rfl, c⟩
    · simp
    · intro e; simp at e; subst e; rw [hr.made] at c; simp at c
  clear h hr
  go_enter Try.func18, Try.ntmps18
  go_wp2_with (first
    | (go_at_call_of 41 b; refine HA.out.mono ?_; rintro e w' ⟨rfl, rfl⟩)
    | (go_at_call_of 41 p; refine HT.out.mono ?_; rintro e w' ⟨rfl, rfl⟩))
  go_ret2
  exact ⟨rfl, rfl⟩
end Go.Proofs.Yteiljaecaahonaa
