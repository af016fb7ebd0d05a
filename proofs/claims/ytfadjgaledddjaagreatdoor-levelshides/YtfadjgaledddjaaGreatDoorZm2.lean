import Derived.Test.YtfadjgaledddjaaGreatDoorZm
/- A paragraph's levels, place by place; asked for again: plain mathematics. -/
namespace Go.Proofs.YtfadjgaledddjaaGreatDoor.Rn
set_option linter.unusedVariables false
open Ex (lev LV TY rm Formed)
theorem VS_at (l : List Int) (b : Int) {i : Nat} (hi : i < l.length) : (VS l b).getD i 0 = PV F13 l b (cl l) i := PVs_at F13 l b (cl l) (by rw [cl_len]; exact hi)
theorem VS_cases {b : Int} (hb : b = 0 ∨ b = 1) {l : List Int} (hF : Formed (cl l)) {i : Nat} (hi : i < l.length) :
    (rm (Ucd.cls (l.getD i 0)) = true ∧ (VS l b).getD i 0 = -1 ∧ ¬ Ucd.cls (l.getD i 0) = 11) ∨ (Ucd.cls (l.getD i 0) = 11 ∧ (VS l b).getD i 0 = b) ∨ (rm (Ucd.cls (l.getD i 0)) = false ∧ ¬ Ucd.cls (l.getD i 0) = 11 ∧ b ≤ (VS l b).getD i 0 ∧ (VS l b).getD i 0 ≤ 126) := by
  have hc : i < (cl l).length := by rw [cl_len]; exact hi
  rw [VS_at l b hi, ← cl_at l hi]
  by_cases h11 : (cl l).getD i 0 = 11
  · exact .inr (.inl ⟨h11, PV_sep hb hF fine13 l hc h11⟩)
  · cases hr : rm ((cl l).getD i 0) with
    | true => exact .inl ⟨rfl, PV_gone hb hF F13 l (by rw [kp_rm hb hc, hr]; rfl), h11⟩
    | false =>
      have := PV_range hb hF fine13 l hc (by rw [kp_rm hb hc, hr]; rfl)
      exact .inr (.inr ⟨rfl, h11, this.1, this.2⟩)
theorem PA_again {l : List Int} {base m : Int} {L : List Int} (h : PA l base m L 0) : (m = 0 ∨ m = 1) ∧ (0 ≤ base → m = base) ∧ L.length = l.length ∧ L = VS l m ∧ Formed (cl l) ∧ PA l m m L 0 := by
  rcases PA_err h with ⟨_, h1, h2, h3, h4, h5⟩ | ⟨h0, _⟩
  · have h6 := bl_two h1 l
    rw [← h4] at h6 h5
    have h7 : bl m l = m := by unfold bl; rw [if_neg (by omega)]
    refine ⟨h6, fun hb => ?_, by rw [h5, VS_len], h5, h3, .inr (.inr (.inr ⟨⟨by omega, by omega⟩, h2, h3, h7.symm, by rw [h7]; exact h5, rfl⟩))⟩
    rw [h4]
    unfold bl
    rw [if_neg (by omega)]
  · exact absurd rfl h0
end Go.Proofs.YtfadjgaledddjaaGreatDoor.Rn
