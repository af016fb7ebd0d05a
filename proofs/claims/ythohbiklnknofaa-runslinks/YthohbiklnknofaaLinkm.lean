/- Where a sequence leaves out kept places: plain mathematics. -/
import Derived.Test.YthohbiklnknofaaCovm
namespace Go.Proofs.Ythohbiklnknofaa.Rn
set_option linter.unusedVariables false
open Ex (lev LV rm Formed)
/-- Each two that follow one another. -/
def Lk (R : Nat → Nat → Prop) (l : List Nat) : Prop := ∀ m, m + 1 < l.length → R (l.getD m 0) (l.getD (m + 1) 0)
theorem Lk.append {R : Nat → Nat → Prop} {a d : List Nat} (ha : Lk R a) (hd : Lk R d) (h : 0 < a.length → 0 < d.length → R (a.getD (a.length - 1) 0) (d.getD 0 0)) : Lk R (a ++ d) := by
  intro m hm
  rw [List.length_append] at hm
  have gl : ∀ i, i < a.length → (a ++ d).getD i 0 = a.getD i 0 := fun i hi => by simp [List.getD, List.getElem?_append_left hi]
  have gr : ∀ i, a.length ≤ i → (a ++ d).getD i 0 = d.getD (i - a.length) 0 := fun i hi => by simp [List.getD, List.getElem?_append_right hi]
  by_cases h1 : m + 1 < a.length
  · rw [gl m (by omega), gl (m + 1) h1]
    exact ha m h1
  · by_cases h2 : m < a.length
    · have e : m = a.length - 1 := by omega
      rw [gl m h2, gr (m + 1) (by omega), e, show a.length - 1 + 1 - a.length = 0 from by omega]
      exact h (by omega) (by omega)
    · rw [gr m (by omega), gr (m + 1) (by omega), show m + 1 - a.length = m - a.length + 1 from by omega]
      exact hd _ (by omega)
section
variable {b : Int} {c : List Int}
/-- Nothing that is kept is left out, or an initiator's isolate is. -/
def LR (b : Int) (c : List Int) (x y : Nat) : Prop := Adj (LV b c) x y ∨ (Iso.st (c.getD x 0) = true ∧ Iso.partner c x = y)
theorem chn_links (hb : b = 0 ∨ b = 1) (hF : Formed c) : ∀ n k, k < (RS (LV b c)).length → (RS (LV b c)).length - k ≤ n →
    Lk (LR b c) (plc (RS (LV b c)) (chn (fo (Iso.MT c) (RS (LV b c))) n k)) ∧ 0 < (plc (RS (LV b c)) (chn (fo (Iso.MT c) (RS (LV b c))) n k)).length ∧ (plc (RS (LV b c)) (chn (fo (Iso.MT c) (RS (LV b c))) n k)).getD 0 0 = fst (RS (LV b c)) k ∧
      ∃ l, (plc (RS (LV b c)) (chn (fo (Iso.MT c) (RS (LV b c))) n k)).getD ((plc (RS (LV b c)) (chn (fo (Iso.MT c) (RS (LV b c))) n k)).length - 1) 0 = lst (RS (LV b c)) l ∧ l < (RS (LV b c)).length ∧ fo (Iso.MT c) (RS (LV b c)) l = none ∧ ltc (fo (Iso.MT c) (RS (LV b c))) n k = l := by
  have hR := runs_of (LV b c)
  intro n
  induction n with
  | zero => intro k hk hn; omega
  | succ n ih =>
    intro k hk hn
    have hrun : Lk (LR b c) (rn (RS (LV b c)) k) := fun m hm => .inl (hR.inner k m hk hm)
    have hpos := hR.pos k hk
    rw [chn_succ]
    cases h : fo (Iso.MT c) (RS (LV b c)) k with
    | none =>
      have e : ltc (fo (Iso.MT c) (RS (LV b c))) (n + 1) k = k := by unfold ltc; rw [chn_succ, h]; rfl
      simp only
      rw [plc_one]
      exact ⟨hrun, hpos, rfl, k, rfl, hk, h, e⟩
    | some j =>
      obtain ⟨f1, f2, f3, f4, f5⟩ := fo_some hb hF hk h
      obtain ⟨i1, i2, i3, l, i4, i5, i6, i7⟩ := ih j f2 (by omega)
      have e : ltc (fo (Iso.MT c) (RS (LV b c))) (n + 1) k = ltc (fo (Iso.MT c) (RS (LV b c))) n j := by
        have hne : chn (fo (Iso.MT c) (RS (LV b c))) n j ≠ [] := fun q => by rw [q] at i2; simp [plc] at i2
        unfold ltc
        rw [chn_succ, h]
        simp only
        exact last_append [k] _ hne
      simp only
      rw [show ∀ t : List Nat, k :: t = [k] ++ t from fun _ => rfl, plc_append, plc_one]
      refine ⟨hrun.append i1 (fun _ _ => .inr ⟨f3, by rw [i3]; exact f4⟩), by rw [List.length_append]; omega, ?_, l, ?_, i5, i6, by rw [e, i7]⟩
      · have : ∀ (a d : List Nat), 0 < a.length → (a ++ d).getD 0 0 = a.getD 0 0 := fun a d ha => by simp [List.getD, List.getElem?_append_left ha]
        rw [this _ _ hpos]
        rfl
      · rw [last_append _ _ (List.length_pos_iff.1 i2)]
        exact i4
/-- What a sequence begins and ends with, and how it goes on. -/
theorem sq_links (hb : b = 0 ∨ b = 1) (hF : Formed c) {k : Nat} (hk : k < (RS (LV b c)).length) (hbg : bg (Iso.MT c) (RS (LV b c)) k = true) :
    Lk (LR b c) (sq b (LV b c) (Iso.MT c) (RS (LV b c)) k).places ∧ 0 < (sq b (LV b c) (Iso.MT c) (RS (LV b c)) k).places.length ∧
      (c.getD ((sq b (LV b c) (Iso.MT c) (RS (LV b c)) k).places.getD 0 0) 0 = 23 → Iso.mt c ((sq b (LV b c) (Iso.MT c) (RS (LV b c)) k).places.getD 0 0) < 0) ∧
      (Iso.st (c.getD ((sq b (LV b c) (Iso.MT c) (RS (LV b c)) k).places.getD ((sq b (LV b c) (Iso.MT c) (RS (LV b c)) k).places.length - 1) 0) 0) = true → Iso.mt c ((sq b (LV b c) (Iso.MT c) (RS (LV b c)) k).places.getD ((sq b (LV b c) (Iso.MT c) (RS (LV b c)) k).places.length - 1) 0) = (c.length : Int)) := by
  have hR := runs_of (LV b c)
  obtain ⟨h1, h2, h3, l, h4, h5, h6, h7⟩ := chn_links hb hF ((RS (LV b c)).length - k) k hk (Nat.le_refl _)
  refine ⟨h1, h2, ?_, ?_⟩
  · show c.getD ((plc _ _).getD 0 0) 0 = 23 → Iso.mt c ((plc _ _).getD 0 0) < 0
    rw [h3]
    intro hx
    have hf := fst_kept hR hk
    rw [Ex.LV_len] at hf
    rcases Iso.mt_pdi hf.1 hx with ⟨q, _⟩ | ⟨i, q1, q2, q3, q4⟩
    · omega
    · exfalso
      rw [mt_st q3] at q4
      have := (bg_iff (rs := RS (LV b c)) (k := k) hf.1).2 ⟨i, q2, q3, by omega⟩
      rw [hbg] at this
      cases this
  · show Iso.st (c.getD ((plc _ _).getD ((plc _ _).length - 1) 0) 0) = true → Iso.mt c ((plc _ _).getD ((plc _ _).length - 1) 0) = (c.length : Int)
    rw [h4]
    intro hs
    rw [mt_st hs, fo_none hb hF h5 h6 hs]
end
end Go.Proofs.Ythohbiklnknofaa.Rn
