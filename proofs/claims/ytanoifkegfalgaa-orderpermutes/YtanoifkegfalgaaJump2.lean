/- A scope in which the run jumps between several labels, onward or back: what holds at each, and one measure for all. -/
import Derived.ScopeJumps
import Derived.WalkMore
namespace Go.Proofs.Ytanoifkegfalgaa
set_option linter.unusedVariables false
/-- What is asked where the run leaves a piece of a scope: at a jump to the label l, J l; else Q. -/
def hops (J : Nat → Act → World → Prop) (Q : Exit → Act → World → Prop) (e : Exit) (a : Act) (w : World) : Prop :=
  match e with
  | .goto l => J l a w
  | other => Q other a w
theorem wp_scope_hops {P : Program} {a : Act} {w : World} {Q : Exit → Act → World → Prop} {c : Code} (rest : Nat → Code) (J : Nat → Act → World → Prop) (μ : Act → Nat)
    (hf : ∀ l a w, J l a w → findLabel c l = some (rest l)) (first : c.wp P (hops J Q) a w)
    (pass : ∀ l a w, J l a w → (rest l).wp P (hops (fun l' a' w' => J l' a' w' ∧ μ a' < μ a) Q) a w) : (Code.scope c).wp P Q a w := by
  intro b k cs
  -- where a piece of the scope ends, if its jumps end
  have leave : ∀ (d : Code) (K : Nat → Act → World → Prop) (x : Act) (u : World), d.wp P (hops K Q) x u → (∀ l y v, K l y v → findLabel c l = some (rest l) ∧ ∃ e z t, Q e z t ∧ Arrives P (lone (b.at y (.code (rest l) :: .inScope c :: k)) cs v) b k cs e z t) →
      ∃ e z t, Q e z t ∧ Arrives P (lone (b.at x (.code d :: .inScope c :: k)) cs u) b k cs e z t := by
    intro d K x u hd hK
    obtain ⟨e, z, t, hq, arr⟩ := hd b (.inScope c :: k) cs
    match e, hq, arr with
    | .goto l, hq, arr =>
      obtain ⟨hl, e2, z2, t2, hq2, arr2⟩ := hK l z t hq
      exact ⟨e2, z2, t2, hq2, .of_steps (arr _ (by simp [gotoIn, hl])) arr2⟩
    | .normal, hq, arr => exact ⟨_, z, t, hq, Steps.trans arr (.one step_inScope)⟩
    | .exit id, hq, arr => exact ⟨_, z, t, hq, fun k2 hk2 => arr k2 (by simpa [exitTo] using hk2)⟩
    | .ret, hq, arr => exact ⟨_, z, t, hq, arr⟩
    | .panic ch, hq, arr => exact ⟨_, z, t, hq, arr⟩
    | .outgrown, hq, arr => exact ⟨_, z, t, hq, arr⟩
  have all : ∀ m l x u, μ x < m → J l x u → ∃ e z t, Q e z t ∧ Arrives P (lone (b.at x (.code (rest l) :: .inScope c :: k)) cs u) b k cs e z t := by
    intro m
    induction m with
    | zero => intro l x u hm; exact absurd hm (Nat.not_lt_zero _)
    | succ m ih => exact fun l x u hm hJ => leave _ _ x u (pass l x u hJ) fun l2 y v hK => ⟨hf l2 y v hK.1, ih l2 y v (by omega) hK.1⟩
  obtain ⟨e, z, t, hq, arr⟩ := leave c J a w first fun l y v hJ => ⟨hf l y v hJ, all _ l y v (Nat.lt_succ_self _) hJ⟩
  exact ⟨e, z, t, hq, .of_steps (.one step_scope) arr⟩
/-- The same for two labels. -/
theorem wp_scope_two {P : Program} {a : Act} {w : World} {Q : Exit → Act → World → Prop} {c r0 r1 : Code} (l0 l1 : Nat) (hne : ¬ l1 = l0) (J : Nat → Act → World → Prop) (μ : Act → Nat) (hJ : ∀ l a w, J l a w → l = l0 ∨ l = l1)
    (h0 : findLabel c l0 = some r0) (h1 : findLabel c l1 = some r1) (first : c.wp P (hops J Q) a w)
    (pass0 : ∀ a w, J l0 a w → r0.wp P (hops (fun l' a' w' => J l' a' w' ∧ μ a' < μ a) Q) a w)
    (pass1 : ∀ a w, J l1 a w → r1.wp P (hops (fun l' a' w' => J l' a' w' ∧ μ a' < μ a) Q) a w) : (Code.scope c).wp P Q a w := by
  refine wp_scope_hops (fun l => if l = l0 then r0 else r1) J μ (fun l x u h => ?_) first fun l x u h => ?_
  · rcases hJ l x u h with rfl | rfl
    · rw [if_pos rfl]; exact h0
    · rw [if_neg hne]; exact h1
  · rcases hJ l x u h with rfl | rfl
    · simp only [if_pos]; exact pass0 x u h
    · simp only [if_neg hne]; exact pass1 x u h
end Go.Proofs.Ytanoifkegfalgaa
