/- The contract of the document's Open. -/
import Derived.Test.YthnhpbambkhphaaDoorRefs
namespace Go.Proofs.YthnhpbambkhphaaDoor
open Go.RowKit
set_option linter.unusedVariables false
set_option maxHeartbeats 400000 in
theorem ropen_short (ao : Option Addr) (n cap : Nat) (xs : List Int) (w : World) (h : Row .u8 w ao n cap xs) (hn : n < 4) :
    Calls Tryd.prog 13 #[.slice ao n cap] w fun e w' => e = .returned (.tuple #[.slice none 0 0, .int .i64 20]) ∧ w = w' := by
  clear h
  go_enter Tryd.func13, Tryd.ntmps13
  go_wp2
  go_ret2
  exact ⟨rfl, rfl⟩
theorem run_head (b off n cap : Nat) (hn : 4 ≤ n) (h : n ≤ cap) (w : World) :
    (Instr.slice 22 (.slice (some ⟨b, off, none⟩) n cap) none (some (.int .i64 ((n : Int) - 4))) none).run Tryd.prog w = .ok (.slice (some ⟨b, off, none⟩) (n - 4) cap) w := by
  have e3 : ((n : Int) - 4).toNat = n - 4 := by omega
  have e4 : (4 : Int) ≤ (n : Int) := by omega
  have e5 : (n : Int) - 4 ≤ (cap : Int) := by omega
  simp [Instr.slice, run_underlying Tryd.underlying22, Instr.sliceBounds, go_sem, e3, e4, e5]
theorem toList_inj {a b : ByteArray} (h : a.toList = b.toList) : a = b := by
  rw [ByteArray.toList_eq, ByteArray.toList_eq] at h
  exact WideShapes.bytes_inj h
set_option maxHeartbeats 2000000 in
theorem ropen_good (ao : Option Addr) (n cap : Nat) (xs : List Int) (w : World) (h : Row .u8 w ao n cap xs) (hb : Bytes xs) (hn : 4 ≤ n) (hsz : n ≤ 140737488351240) (hg : good xs) :
    Calls Tryd.prog 13 #[.slice ao n cap] w fun e w' => e = .returned (.tuple #[.slice ao (n - 4) cap, .int .i64 0]) ∧ Below w.heap.size w w' := by
  obtain ⟨b, off, rfl, _, _⟩ := h.cells (by omega)
  have hmx := h.max
  have hle := h.le
  have hss := good_split hg
  rw [h.len] at hss
  have hsl := fun w' => run_head b off n cap hn hle w'
  have HS := hide (fun w' (hk : KO w w') => rseal_any (some ⟨b, off, none⟩) (n - 4) cap (xs.take (n - 4)) w' ((h.below hk).take (by omega)) (hb.take (n - 4)) (by omega))
  simp only [hss, Nat.sub_add_cancel hn] at HS
  have hrb := fun w' (hk : KO w w') => run_str w' _ _ _ _ (h.below hk) hb
  have HBY := hide hb
  have hK : KO w w := Below.refl _ _
  unfold maxLen at hmx
  clear h hb hg hss
  go_enter Tryd.func13, Tryd.ntmps13
  go_wp2_with fail
  refine wp_region_noPanic ?_
  go_region_held (fun w' => KO w w') (first | exact KO.drew hK | assumption)
    (first | (go_at_call 14; refine (HS.out _ (by assumption)).mono ?_; rintro e w' ⟨v2, rfl, ho2, hb2⟩; obtain ⟨a2, c2, rfl, hr2⟩ := row_of_owns ho2; have hrf := run_str _ _ _ _ _ hr2 HBY.out; have hk2 : KO w w' := Below.trans (by assumption) (hb2.mono (by have : KO w _ := (by assumption); exact this.size))))
  all_goals
    refine NoPanic.normal ?_
    have HB := hide hk2
    clear hK hrb hsl
    go_wp2
    go_ret2
    exact ⟨rfl, HB.out⟩
set_option maxHeartbeats 2000000 in
theorem ropen_bad (ao : Option Addr) (n cap : Nat) (xs : List Int) (w : World) (h : Row .u8 w ao n cap xs) (hb : Bytes xs) (hn : 4 ≤ n) (hsz : n ≤ 140737488351240) (hg : ¬ good xs) :
    Calls Tryd.prog 13 #[.slice ao n cap] w fun e w' => e = .returned (.tuple #[.slice none 0 0, .int .i64 21]) ∧ Below w.heap.size w w' := by
  obtain ⟨b, off, rfl, _, _⟩ := h.cells (by omega)
  have hmx := h.max
  have hle := h.le
  have hsl := fun w' => run_head b off n cap hn hle w'
  have HS := hide (fun w' (hk : KO w w') => rseal_any (some ⟨b, off, none⟩) (n - 4) cap (xs.take (n - 4)) w' ((h.below hk).take (by omega)) (hb.take (n - 4)) (by omega))
  simp only [Nat.sub_add_cancel hn] at HS
  have hrb := fun w' (hk : KO w w') => run_str w' _ _ _ _ (h.below hk) hb
  have HBY := hide (Sums.sealed_bytes (hb.take (n - 4)))
  have hne : ((str (Sums.sealed (xs.take (n - 4)))).toList == (str xs).toList) = false := by
    rw [beq_eq_false_iff_ne]
    intro he
    have e := str_inj HBY.out hb (toList_inj he)
    have hg2 := good_sealed (xs.take (n - 4))
    rw [e] at hg2
    exact hg hg2.1
  have hK : KO w w := Below.refl _ _
  unfold maxLen at hmx
  clear h hb hg
  generalize str xs = st at *
  generalize Sums.sealed (xs.take (n - 4)) = ys at *
  go_enter Tryd.func13, Tryd.ntmps13
  go_wp2_with fail
  refine wp_region_noPanic ?_
  go_region_held (fun w' => KO w w') (first | exact KO.drew hK | assumption)
    (first | (go_at_call 14; refine (HS.out _ (by assumption)).mono ?_; rintro e w' ⟨v2, rfl, ho2, hb2⟩; obtain ⟨a2, c2, rfl, hr2⟩ := row_of_owns ho2; have hrf := run_str _ _ _ _ _ hr2 HBY.out; have hk2 : KO w w' := Below.trans (by assumption) (hb2.mono (by have : KO w _ := (by assumption); exact this.size))))
  all_goals
    refine NoPanic.normal ?_
    have HB := hide hk2
    clear hK hrb hsl
    go_wp2
    go_ret2
    exact ⟨rfl, HB.out⟩
end Go.Proofs.YthnhpbambkhphaaDoor
