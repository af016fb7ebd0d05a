/- Ropes: what they are in memory; contracts of New, Len, Breaks, Deep, Insert, Delete, Split, Concat. -/
import Derived.Test.YteiljaecaahonaaSplit
import Derived.Test.YteiljaecaahonaaGrow
namespace Go.Proofs.Yteiljaecaahonaa
open Go.RowKit
set_option linter.unusedVariables false
set_option maxHeartbeats 2000000
set_option maxRecDepth 100000
/-- The rope in block b has the balanced tree t. -/
structure IsRope (w : World) (b : Nat) (t : Tr) : Prop where
  made : w.cell? ⟨b, 0, none⟩ = some (.bool true)
  top : w.cell? ⟨b, 1, none⟩ = some (.pointer t.at)
  lies : Lies w t
  bal : t.bal
theorem IsRope.lt {w : World} {b : Nat} {t : Tr} (h : IsRope w b t) : b < w.heap.size := by simpa using World.block_lt_of_cell? w _ h.made
theorem IsRope.below {w w' : World} {b : Nat} {t : Tr} (h : IsRope w b t) (hb : Below w.heap.size w w') : IsRope w' b t :=
  ⟨(hb.cell (by exact h.lt)).trans h.made, (hb.cell (by exact h.lt)).trans h.top, h.lies.below hb, h.bal⟩
/-- A rope that is nil, or that no call made. -/
def Nobody (w : World) (p : Option Addr) : Prop := p = none ∨ ∃ b, p = some ⟨b, 0, none⟩ ∧ w.cell? ⟨b, 0, none⟩ = some (.bool false)
theorem Nobody.below {w w' : World} {p : Option Addr} (h : Nobody w p) (hb : Below w.heap.size w w') : Nobody w' p := by
  rcases h with h | ⟨b, h, c⟩
  · exact .inl h
  · exact .inr ⟨b, h, (hb.cell (by simpa using World.block_lt_of_cell? w _ c)).trans c⟩
theorem stands_rope (b : Nat) (t : Tr) (w : World) (h : IsRope w b t) : Calls Try.prog 41 #[.pointer (some ⟨b, 0, none⟩)] w fun e w' => e = .returned (.bool true) ∧ w = w' := by
  have c := h.made
  clear h
  go_enter Try.func41, Try.ntmps41
  go_wp2
  go_ret
  exact ⟨rfl, rfl⟩
theorem stands_nobody (p : Option Addr) (w : World) (h : Nobody w p) : Calls Try.prog 41 #[.pointer p] w fun e w' => e = .returned (.bool false) ∧ w = w' := by
  rcases h with rfl | ⟨b, rfl, c⟩
  · go_enter Try.func41, Try.ntmps41
    go_wp2
    go_ret
    exact ⟨rfl, rfl⟩
  · go_enter Try.func41, Try.ntmps41
    go_wp2
    go_ret
    exact ⟨rfl, rfl⟩
theorem ropeOf_any (t : Tr) (w : World) (h : Lies w t) (hb : t.bal) : Calls Try.prog 34 #[.pointer t.at] w fun e w' => ∃ b, e = .returned (.pointer (some ⟨b, 0, none⟩)) ∧ IsRope w' b t ∧ Below w.heap.size w w' := by
  obtain ⟨p, hp⟩ : ∃ p, t.at = p := ⟨_, rfl⟩
  have HP := hide hp
  have HL := hide h
  rw [hp]
  clear h hp
  go_enter Try.func34, Try.ntmps34
  go_wp2
  go_ret
  have hB : Below w.heap.size w (w.alloc (.cells #[.bool true, .pointer p] 37)) := (Below.refl _ _).alloc (Nat.le_refl _) _
  exact ⟨w.heap.size, rfl, ⟨by rw [World.cell?_alloc_mark]; rfl, by rw [World.cell?_alloc_mark, HP.out]; rfl, HL.out.below hB, hb⟩, hB⟩
theorem new_any (ao : Option Addr) (n cap : Nat) (zs : List Int) (w : World) (h : Row .i32 w ao n cap zs) (hwf : ∀ x ∈ zs, (Lit.int .i32 x).wf = true) (hmax : n ≤ 2305843009213693952) :
    Calls Try.prog 9 #[.slice ao n cap] w fun e w' => ∃ b t, e = .returned (.pointer (some ⟨b, 0, none⟩)) ∧ IsRope w' b t ∧ t.list = zs ∧ Below w.heap.size w w' := by
  have HG := hide (grow_any n ao n cap zs w (Nat.le_refl _) h hwf hmax)
  clear h hwf hmax
  go_enter Try.func9, Try.ntmps9
  go_wp2_with (first
    | (go_at_call 35; refine HG.out.mono ?_; rintro e w1 ⟨t, rfl, hl, hi, hb, hh, hb1⟩; have HI := hide hi; clear hi hh)
    | (go_at_call 34; refine (ropeOf_any t _ hl hb).mono ?_; rintro e w2 ⟨b, rfl, hr, hb2⟩))
  go_ret
  exact ⟨b, t, rfl, hr, HI.out, hb1.trans (hb2.mono hb1.size)⟩
theorem Len_rope (b : Nat) (t : Tr) (w : World) (h : IsRope w b t) : Calls Try.prog 20 #[.pointer (some ⟨b, 0, none⟩)] w fun e w' => e = .returned (.int .i64 (t.size : Int)) ∧ w = w' := by
  have HS := hide (stands_rope b t w h)
  have HL := hide (len_any t w h.lies)
  have c := h.top
  obtain ⟨p, hp⟩ : ∃ p, t.at = p := ⟨_, rfl⟩
  rw [hp] at HL c
  clear h hp
  go_enter Try.func20, Try.ntmps20
  go_wp2_with (first
    | (go_at_call 41; refine HS.out.mono ?_; rintro e w' ⟨rfl, rfl⟩)
    | (go_at_call 48; refine HL.out.mono ?_; rintro e w' ⟨rfl, rfl⟩))
  go_ret
  exact ⟨rfl, rfl⟩
theorem Breaks_rope (b : Nat) (t : Tr) (w : World) (h : IsRope w b t) : Calls Try.prog 21 #[.pointer (some ⟨b, 0, none⟩)] w fun e w' => e = .returned (.int .i64 (t.brk : Int)) ∧ w = w' := by
  have HS := hide (stands_rope b t w h)
  have HL := hide (seps_any t w h.lies)
  have c := h.top
  obtain ⟨p, hp⟩ : ∃ p, t.at = p := ⟨_, rfl⟩
  rw [hp] at HL c
  clear h hp
  go_enter Try.func21, Try.ntmps21
  go_wp2_with (first
    | (go_at_call 41; refine HS.out.mono ?_; rintro e w' ⟨rfl, rfl⟩)
    | (go_at_call 49; refine HL.out.mono ?_; rintro e w' ⟨rfl, rfl⟩))
  go_ret
  exact ⟨rfl, rfl⟩
theorem Deep_rope (b : Nat) (t : Tr) (w : World) (h : IsRope w b t) : Calls Try.prog 22 #[.pointer (some ⟨b, 0, none⟩)] w fun e w' => e = .returned (.int .i64 (t.high : Int)) ∧ w = w' := by
  have HS := hide (stands_rope b t w h)
  have HL := hide (deep_any t w h.lies)
  have c := h.top
  obtain ⟨p, hp⟩ : ∃ p, t.at = p := ⟨_, rfl⟩
  rw [hp] at HL c
  clear h hp
  go_enter Try.func22, Try.ntmps22
  go_wp2_with (first
    | (go_at_call 41; refine HS.out.mono ?_; rintro e w' ⟨rfl, rfl⟩)
    | (go_at_call 50; refine HL.out.mono ?_; rintro e w' ⟨rfl, rfl⟩))
  go_ret
  exact ⟨rfl, rfl⟩
theorem Len_nobody (p : Option Addr) (w : World) (h : Nobody w p) : Calls Try.prog 20 #[.pointer p] w fun e w' => e = .returned (.int .i64 0) ∧ w = w' := by
  have HS := hide (stands_nobody p w h)
  clear h
  go_enter Try.func20, Try.ntmps20
  go_wp2_with (go_at_call 41; refine HS.out.mono ?_; rintro e w' ⟨rfl, rfl⟩)
  go_ret
  exact ⟨rfl, rfl⟩
theorem Breaks_nobody (p : Option Addr) (w : World) (h : Nobody w p) : Calls Try.prog 21 #[.pointer p] w fun e w' => e = .returned (.int .i64 0) ∧ w = w' := by
  have HS := hide (stands_nobody p w h)
  clear h
  go_enter Try.func21, Try.ntmps21
  go_wp2_with (go_at_call 41; refine HS.out.mono ?_; rintro e w' ⟨rfl, rfl⟩)
  go_ret
  exact ⟨rfl, rfl⟩
theorem Deep_nobody (p : Option Addr) (w : World) (h : Nobody w p) : Calls Try.prog 22 #[.pointer p] w fun e w' => e = .returned (.int .i64 0) ∧ w = w' := by
  have HS := hide (stands_nobody p w h)
  clear h
  go_enter Try.func22, Try.ntmps22
  go_wp2_with (go_at_call 41; refine HS.out.mono ?_; rintro e w' ⟨rfl, rfl⟩)
  go_ret
  exact ⟨rfl, rfl⟩
/-- What is wrong with places of a rope. -/
def bad (n : Nat) (i j : Int) : Int := if i < 0 ∨ (n : Int) < j ∨ j < i then 4 else 0
theorem stretch_rope (b : Nat) (t : Tr) (i j : Int) (w : World) (h : IsRope w b t) :
    Calls Try.prog 43 #[.pointer (some ⟨b, 0, none⟩), .int .i64 i, .int .i64 j] w fun e w' => e = .returned (.int .i64 (bad t.size i j)) ∧ w = w' := by
  have HS := hide (stands_rope b t w h)
  have HL := hide (Len_rope b t w h)
  obtain ⟨z, hz⟩ : ∃ z, t.size = z := ⟨_, rfl⟩
  rw [hz] at HL ⊢
  obtain ⟨r, hr⟩ : ∃ r, bad z i j = r := ⟨_, rfl⟩
  have HR := hide hr
  rw [hr]
  clear h hz hr
  by_cases h1 : i < 0
  · have HE := hide (show r = 4 from by rw [← HR.out]; unfold bad; rw [if_pos (.inl h1)])
    go_enter Try.func43, Try.ntmps43
    go_wp2_with (go_at_call 41; refine HS.out.mono ?_; rintro e w' ⟨rfl, rfl⟩)
    go_ret
    exact ⟨ret_int HE.out.symm, rfl⟩
  · by_cases h2 : (z : Int) < j
    · have HE := hide (show r = 4 from by rw [← HR.out]; unfold bad; rw [if_pos (.inr (.inl h2))])
      go_enter Try.func43, Try.ntmps43
      go_wp2_with (first
        | (go_at_call 41; refine HS.out.mono ?_; rintro e w' ⟨rfl, rfl⟩)
        | (go_at_call 20; refine HL.out.mono ?_; rintro e w' ⟨rfl, rfl⟩))
      go_ret
      exact ⟨ret_int HE.out.symm, rfl⟩
    · by_cases h3 : j < i
      · have HE := hide (show r = 4 from by rw [← HR.out]; unfold bad; rw [if_pos (.inr (.inr h3))])
        go_enter Try.func43, Try.ntmps43
        go_wp2_with (first
          | (go_at_call 41; refine HS.out.mono ?_; rintro e w' ⟨rfl, rfl⟩)
          | (go_at_call 20; refine HL.out.mono ?_; rintro e w' ⟨rfl, rfl⟩))
        go_ret
        exact ⟨ret_int HE.out.symm, rfl⟩
      · have HE := hide (show r = 0 from by rw [← HR.out]; unfold bad; rw [if_neg (by omega)])
        go_enter Try.func43, Try.ntmps43
        go_wp2_with (first
          | (go_at_call 41; refine HS.out.mono ?_; rintro e w' ⟨rfl, rfl⟩)
          | (go_at_call 20; refine HL.out.mono ?_; rintro e w' ⟨rfl, rfl⟩))
        go_ret
        exact ⟨ret_int HE.out.symm, rfl⟩
theorem stretch_nobody (p : Option Addr) (i j : Int) (w : World) (h : Nobody w p) : Calls Try.prog 43 #[.pointer p, .int .i64 i, .int .i64 j] w fun e w' => e = .returned (.int .i64 1) ∧ w = w' := by
  have HS := hide (stands_nobody p w h)
  clear h
  go_enter Try.func43, Try.ntmps43
  go_wp2_with (go_at_call 41; refine HS.out.mono ?_; rintro e w' ⟨rfl, rfl⟩)
  go_ret
  exact ⟨rfl, rfl⟩
end Go.Proofs.Yteiljaecaahonaa
