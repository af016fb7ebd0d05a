import Derived.Test.YtmdmehopefgndaaGreatDoorZ14
import Derived.Test.YtmdmehopefgndaaGreatDoorZ01
/- Where a sequence leaves out kept places: plain mathematics. -/
namespace Go.Proofs.YtmdmehopefgndaaGreatDoor.Rn
set_option linter.unusedVariables false
open Ex (lev LV rm Formed)
/-- Each two that follow one another. -/
def Lk (R : Nat → Nat → Prop) (l : List Nat) : Prop := ∀ m, m + 1 < l.length → R (l.getD m 0) (l.getD (m + 1) 0)
theorem Lk.append {R : Nat → Nat → Prop} {a d : List Nat} (ha : Lk R a) (hd : Lk R d) (h : 0 < a.length → 0 < d.length → R (a.getD (a.length - 1) 0) (d.getD 0 0)) : Lk R (a ++ d) := by
  intro m hm
  rw [List.length_append] at hm
  have gl : ∀ i, i < a.length → (a ++ d).getD i 0 = a.getD i 0 := fun i hi => by simp [List.getD, List.getElem?_append_left hi]
  have gr : ∀ i, a.length ≤ i → (a ++ d).getD i 0 = d.getD (i - a.length) 0 := fun i hi => by simp [List.getD, List.getElem?_append_right hi]
  by_cases h1 : m + 1 < a.length
  · rw [gl m (by omega), gl (m + 1) h1]
    exact ha m h1
  · by_cases h2 : m < a.length
    · have e : m = a.length - 1 := by omega
      rw [gl m h2, gr (m + 1) (by omega), e, show a.length - 1 + 1 - a.length = 0 from by omega]
      exact h (by omega) (by omega)
    · rw [gr m (by omega), gr (m + 1) (by omega), show m + 1 - a.length = m - a.length + 1 from by omega]
      exact hd _ (by omega)
section
variable {b : Int} {c : List Int}
/-- Nothing that is kept is left out, or an initiator's isolate is. -/
def LR (b : Int) (c : List Int) (x y : Nat) : Prop := Adj (LV b c) x y ∨ (Iso.st (c.getD x 0) = true ∧ Iso.partner c x = y)
theorem chn_links (hb : b = 0 ∨ b = 1) (hF : Formed c) : ∀ n k, k < (RS (LV b c)).length → (RS (LV b c)).length - k ≤ n →
    Lk (LR b c) (plc (RS (LV b c)) (chn (fo (Iso.MT c) (RS (LV b c))) n k)) ∧ 0 < (plc (RS (LV b c)) (chn (fo (Iso.MT c) (RS (LV b c))) n k)).length ∧ (plc (RS (LV b c)) (chn (fo (Iso.MT c) (RS (LV b c))) n k)).getD 0 0 = fst (RS (LV b c)) k ∧
      ∃ l, (plc (RS (LV b c)) (chn (fo (Iso.MT c) (RS (LV b c))) n k)).getD ((plc (RS (LV b c)) (chn (fo (Iso.MT c) (RS (LV b c))) n k)).length - 1) 0 = lst (RS (LV b c)) l ∧ l < (RS (LV b c)).length ∧ fo (Iso.MT c) (RS (LV b c)) l = none ∧ ltc (fo (Iso.MT c) (RS (LV b c))) n k = l := by
  have hR := runs_of (LV b c)
  intro n
  induction n with
  | zero => intro k hk hn; omega
  | succ n ih =>
    intro k hk hn
    have hrun : Lk (LR b c) (rn (RS (LV b c)) k) := fun m hm => .inl (hR.inner k m hk hm)
    have hpos := hR.pos k hk
    rw [chn_succ]
    cases h : fo (Iso.MT c) (RS (LV b c)) k with
    | none =>
      have e : ltc (fo (Iso.MT c) (RS (LV b c))) (n + 1) k = k := by unfold ltc; rw [chn_succ, h]; rfl
      simp only
      rw [plc_one]
      exact ⟨hrun, hpos, rfl, k, rfl, hk, h, e⟩
    | some j =>
      obtain ⟨f1, f2, f3, f4, f5⟩ := fo_some hb hF hk h
      obtain ⟨i1, i2, i3, l, i4, i5, i6, i7⟩ := ih j f2 (by omega)
      have e : ltc (fo (Iso.MT c) (RS (LV b c))) (n + 1) k = ltc (fo (Iso.MT c) (RS (LV b c))) n j := by
        have hne : chn (fo (Iso.MT c) (RS (LV b c))) n j ≠ [] := fun q => by rw [q] at i2; simp [plc] at i2
        unfold ltc
        rw [chn_succ, h]
        simp only
        exact last_append [k] _ hne
      simp only
      rw [show ∀ t : List Nat, k :: t = [k] ++ t from fun _ => rfl, plc_append, plc_one]
      refine ⟨hrun.append i1 (fun _ _ => .inr ⟨f3, by rw [i3]; exact f4⟩), by rw [List.length_append]; omega, ?_, l, ?_, i5, i6, by rw [e, i7]⟩
      · have : ∀ (a d : List Nat), 0 < a.length → (a ++ d).getD 0 0 = a.getD 0 0 := fun a d ha => by simp [List.getD, List.getElem?_append_left ha]
        rw [this _ _ hpos]
        rfl
      · rw [last_append _ _ (List.length_pos_iff.1 i2)]
        exact i4
/-- What a sequence begins and ends with, and how it goes on. -/
theorem sq_links (hb : b = 0 ∨ b = 1) (hF : Formed c) {k : Nat} (hk : k < (RS (LV b c)).length) (hbg : bg (Iso.MT c) (RS (LV b c)) k = true) :
    Lk (LR b c) (sq b (LV b c) (Iso.MT c) (RS (LV b c)) k).places ∧ 0 < (sq b (LV b c) (Iso.MT c) (RS (LV b c)) k).places.length ∧
      (c.getD ((sq b (LV b c) (Iso.MT c) (RS (LV b c)) k).places.getD 0 0) 0 = 23 → Iso.mt c ((sq b (LV b c) (Iso.MT c) (RS (LV b c)) k).places.getD 0 0) < 0) ∧
      (Iso.st (c.getD ((sq b (LV b c) (Iso.MT c) (RS (LV b c)) k).places.getD ((sq b (LV b c) (Iso.MT c) (RS (LV b c)) k).places.length - 1) 0) 0) = true → Iso.mt c ((sq b (LV b c) (Iso.MT c) (RS (LV b c)) k).places.getD ((sq b (LV b c) (Iso.MT c) (RS (LV b c)) k).places.length - 1) 0) = (c.length : Int)) := by
  have hR := runs_of (LV b c)
  obtain ⟨h1, h2, h3, l, h4, h5, h6, h7⟩ := chn_links hb hF ((RS (LV b c)).length - k) k hk (Nat.le_refl _)
  refine ⟨h1, h2, ?_, ?_⟩
  · show c.getD ((plc _ _).getD 0 0) 0 = 23 → Iso.mt c ((plc _ _).getD 0 0) < 0
    rw [h3]
    intro hx
    have hf := fst_kept hR hk
    rw [Ex.LV_len] at hf
    rcases Iso.mt_pdi hf.1 hx with ⟨q, _⟩ | ⟨i, q1, q2, q3, q4⟩
    · omega
    · exfalso
      rw [mt_st q3] at q4
      have := (bg_iff (rs := RS (LV b c)) (k := k) hf.1).2 ⟨i, q2, q3, by omega⟩
      rw [hbg] at this
      cases this
  · show Iso.st (c.getD ((plc _ _).getD ((plc _ _).length - 1) 0) 0) = true → Iso.mt c ((plc _ _).getD ((plc _ _).length - 1) 0) = (c.length : Int)
    rw [h4]
    intro hs
    rw [mt_st hs, fo_none hb hF h5 h6 hs]
end
end Go.Proofs.YtmdmehopefgndaaGreatDoor.Rn

/- Chains that go as far as they may, and two of them that correspond: plain mathematics. -/
namespace Go.Proofs.YtmdmehopefgndaaGreatDoor.Lv
set_option linter.unusedVariables false
/-- A chain that goes as far as it may, to either end. -/
structure Mx (N : Nat → Nat → Prop) (ps : List Nat) : Prop where
  pos : 0 < ps.length
  lk : ∀ m, m + 1 < ps.length → N (ps.getD m 0) (ps.getD (m + 1) 0)
  fst : ∀ i, ¬ N i (ps.getD 0 0)
  lst : ∀ j, ¬ N (ps.getD (ps.length - 1) 0) j
def Fun (N : Nat → Nat → Prop) : Prop := ∀ i j k, N i j → N i k → j = k
def Inj (N : Nat → Nat → Prop) : Prop := ∀ i j k, N i k → N j k → i = j
/-- One way: what goes on here goes on there. -/
structure Half (ρ : Nat → Nat → Prop) (N N' : Nat → Nat → Prop) : Prop where
  fw : ∀ i i' j, ρ i i' → N i j → ∃ j', ρ j j' ∧ N' i' j'
  bw : ∀ i i' j, ρ i i' → N j i → ∃ j', ρ j j' ∧ N' j' i'
def flip (ρ : Nat → Nat → Prop) : Nat → Nat → Prop := fun i j => ρ j i
theorem back {ρ N N' : Nat → Nat → Prop} (h : Half ρ N N') (hi : Inj N') {ps qs : List Nat} (hp : Mx N ps) (hq : Mx N' qs) {m m' : Nat} (hm : m < ps.length) (hm' : m' < qs.length) (hr : ρ (ps.getD m 0) (qs.getD m' 0)) :
    ∀ k, k ≤ m → k ≤ m' ∧ ρ (ps.getD (m - k) 0) (qs.getD (m' - k) 0) := by
  intro k
  induction k with
  | zero => intro _; exact ⟨Nat.zero_le _, hr⟩
  | succ k ih =>
    intro hk
    obtain ⟨h1, h2⟩ := ih (by omega)
    have hl := hp.lk (m - (k + 1)) (by omega)
    rw [show m - (k + 1) + 1 = m - k from by omega] at hl
    obtain ⟨j', h3, h4⟩ := h.bw _ _ _ h2 hl
    by_cases h0 : m' = k
    · rw [h0, Nat.sub_self] at h4
      exact absurd h4 (hq.fst j')
    · have hl' := hq.lk (m' - (k + 1)) (by omega)
      rw [show m' - (k + 1) + 1 = m' - k from by omega] at hl'
      rw [hi _ _ _ h4 hl'] at h3
      exact ⟨by omega, h3⟩
theorem forth {ρ N N' : Nat → Nat → Prop} (h : Half ρ N N') (hf : Fun N') {ps qs : List Nat} (hp : Mx N ps) (hq : Mx N' qs) {m m' : Nat} (hm : m < ps.length) (hm' : m' < qs.length) (hr : ρ (ps.getD m 0) (qs.getD m' 0)) :
    ∀ k, m + k < ps.length → m' + k < qs.length ∧ ρ (ps.getD (m + k) 0) (qs.getD (m' + k) 0) := by
  intro k
  induction k with
  | zero => intro _; exact ⟨hm', hr⟩
  | succ k ih =>
    intro hk
    obtain ⟨h1, h2⟩ := ih (by omega)
    have hl := hp.lk (m + k) (by omega)
    obtain ⟨j', h3, h4⟩ := h.fw _ _ _ h2 hl
    by_cases h0 : m' + k + 1 < qs.length
    · have hl' := hq.lk (m' + k) h0
      rw [hf _ _ _ h4 hl'] at h3
      exact ⟨h0, h3⟩
    · rw [show m' + k = qs.length - 1 from by omega] at h4
      exact absurd h4 (hq.lst j')
/-- Two chains of which one place of the one corresponds to one of the other correspond place by place. -/
theorem corr {ρ N N' : Nat → Nat → Prop} (h : Half ρ N N') (h' : Half (flip ρ) N' N) (hf : Fun N) (hi : Inj N) (hf' : Fun N') (hi' : Inj N') {ps qs : List Nat} (hp : Mx N ps) (hq : Mx N' qs) {m m' : Nat} (hm : m < ps.length) (hm' : m' < qs.length) (hr : ρ (ps.getD m 0) (qs.getD m' 0)) :
    m = m' ∧ ps.length = qs.length ∧ ∀ k, k < ps.length → ρ (ps.getD k 0) (qs.getD k 0) := by
  have h1 := (back h hi' hp hq hm hm' hr m (Nat.le_refl _)).1
  have h2 := (back h' hi hq hp hm' hm hr m' (Nat.le_refl _)).1
  obtain rfl : m = m' := by omega
  have h3 := (forth h hf' hp hq hm hm' hr (ps.length - 1 - m) (by omega)).1
  have h4 := (forth h' hf hq hp hm' hm hr (qs.length - 1 - m) (by omega)).1
  refine ⟨rfl, by omega, fun k hk => ?_⟩
  rcases Nat.lt_or_ge k m with hkm | hkm
  · have := (back h hi' hp hq hm hm' hr (m - k) (by omega)).2
    rw [show m - (m - k) = k from by omega] at this
    exact this
  · have := (forth h hf' hp hq hm hm' hr (k - m) (by omega)).2
    rw [show m + (k - m) = k from by omega] at this
    exact this
/-- Two chains with a place in common are one. -/
theorem Mx.unique {N : Nat → Nat → Prop} (hf : Fun N) (hi : Inj N) {ps qs : List Nat} (hp : Mx N ps) (hq : Mx N qs) {m m' : Nat} (hm : m < ps.length) (hm' : m' < qs.length) (hr : ps.getD m 0 = qs.getD m' 0) : ps = qs := by
  have hh : Half (fun i j => i = j) N N := ⟨fun i i' j e h => ⟨j, rfl, e ▸ h⟩, fun i i' j e h => ⟨j, rfl, e ▸ h⟩⟩
  have hh' : Half (flip fun i j => i = j) N N := ⟨fun i i' j e h => ⟨j, rfl, by have e : i' = i := e; rw [e]; exact h⟩, fun i i' j e h => ⟨j, rfl, by have e : i' = i := e; rw [e]; exact h⟩⟩
  obtain ⟨_, h2, h3⟩ := corr hh hh' hf hi hf hi hp hq hm hm' hr
  refine List.ext_getElem h2 fun k h4 h5 => ?_
  have := h3 k h4
  simpa [List.getD, h4, h5] using this
theorem mem_getD {ps : List Nat} {i : Nat} (h : i ∈ ps) : ∃ m, m < ps.length ∧ ps.getD m 0 = i := by
  obtain ⟨m, hm, rfl⟩ := List.mem_iff_getElem.1 h
  exact ⟨m, hm, by simp [List.getD, hm]⟩
end Go.Proofs.YtmdmehopefgndaaGreatDoor.Lv

/- Isolating run sequences as chains: which place follows which; what stands at their ends: plain mathematics. -/
namespace Go.Proofs.YtmdmehopefgndaaGreatDoor.Rn
set_option linter.unusedVariables false
open Ex (lev LV rm Formed)
open Lv (Mx Fun Inj)
section
variable {b : Int} {c : List Int}
/-- A place, and the one that follows it in its sequence. -/
structure Nx (b : Int) (c : List Int) (i j : Nat) : Prop where
  ki : kp (LV b c) i = true
  kj : kp (LV b c) j = true
  lt : j < c.length
  lv : (LV b c).getD i 0 = (LV b c).getD j 0
  how : Adj (LV b c) i j ∨ (Iso.st (c.getD i 0) = true ∧ Iso.partner c i = j ∧ ∀ z, Adj (LV b c) i z → z < c.length → kp (LV b c) z = true → (LV b c).getD z 0 ≠ (LV b c).getD i 0)
theorem Nx.up {i j : Nat} (h : Nx b c i j) : i < j := by
  rcases h.how with h1 | ⟨_, h2, _⟩
  · exact h1.1
  · have := Iso.partner_gt c i; omega
theorem adj_fun {lv : List Int} {i j k : Nat} (h : Adj lv i j) (hj : kp lv j = true) (h' : Adj lv i k) (hk : kp lv k = true) : j = k := by
  rcases Nat.lt_trichotomy j k with h1 | h1 | h1
  · have := h'.2 j h.1 h1; rw [hj] at this; cases this
  · exact h1
  · have := h.2 k h'.1 h1; rw [hk] at this; cases this
theorem adj_inj {lv : List Int} {i j k : Nat} (h : Adj lv i k) (hi : kp lv i = true) (h' : Adj lv j k) (hj : kp lv j = true) : i = j := by
  rcases Nat.lt_trichotomy i j with h1 | h1 | h1
  · have := h.2 j h1 h'.1; rw [hj] at this; cases this
  · exact h1
  · have := h'.2 i h1 h.1; rw [hi] at this; cases this
theorem nx_fun (b : Int) (c : List Int) : Fun (Nx b c) := by
  intro i j k h h'
  rcases h.how with h1 | ⟨s1, p1, n1⟩ <;> rcases h'.how with h2 | ⟨s2, p2, n2⟩
  · exact adj_fun h1 h.kj h2 h'.kj
  · exact absurd h.lv.symm (n2 j h1 h.lt h.kj)
  · exact absurd h'.lv.symm (n1 k h2 h'.lt h'.kj)
  · rw [← p1, ← p2]
theorem part_inj {i j k : Nat} (hi : Iso.st (c.getD i 0) = true) (hj : Iso.st (c.getD j 0) = true) (h : Iso.partner c i = k) (h' : Iso.partner c j = k) (hk : k < c.length) : i = j := by
  have e1 := Iso.mt_pair hi (by omega)
  have e2 := Iso.mt_pair hj (by omega)
  rw [h] at e1
  rw [h'] at e2
  omega
/-- The first kept place behind one. -/
theorem next_kept {lv : List Int} {i k : Nat} (hk : kp lv k = true) (hik : i < k) : ∃ z, Adj lv i z ∧ z ≤ k ∧ kp lv z = true := by
  obtain ⟨d, rfl⟩ : ∃ d, k = i + 1 + d := ⟨k - (i + 1), by omega⟩
  clear hik
  induction d using Nat.strongRecOn with
  | ind d ih =>
    by_cases h : ∃ d', d' < d ∧ kp lv (i + 1 + d') = true
    · obtain ⟨d', h1, h2⟩ := h
      obtain ⟨z, a1, a2, a3⟩ := ih d' h1 h2
      exact ⟨z, a1, by omega, a3⟩
    · refine ⟨i + 1 + d, ⟨by omega, fun z h1 h2 => ?_⟩, Nat.le_refl _, hk⟩
      cases hz : kp lv z with
      | false => rfl
      | true => exact absurd ⟨z - (i + 1), by omega, by rw [show i + 1 + (z - (i + 1)) = z from by omega]; exact hz⟩ h
theorem cross_inj (hb : b = 0 ∨ b = 1) (hF : Formed c) {i j k : Nat} (h : Nx b c i k) (h1 : Adj (LV b c) i k) (h' : Nx b c j k) (sj : Iso.st (c.getD j 0) = true) (pj : Iso.partner c j = k) (nj : ∀ z, Adj (LV b c) j z → z < c.length → kp (LV b c) z = true → (LV b c).getD z 0 ≠ (LV b c).getD j 0) : i = j := by
  have hk := h.lt
  have hjk := h'.up
  have hik := h1.1
  rcases Nat.lt_trichotomy i j with q | q | q
  · have := h1.2 j q hjk; rw [h'.ki] at this; cases this
  · exact q
  · exfalso
    obtain ⟨z, a1, a2, a3⟩ := next_kept h.ki q
    have hz : z < c.length := by omega
    have hrz : rm (c.getD z 0) = false := by have := a3; rw [kp_rm hb hz] at this; simpa using this
    have hri : rm (c.getD i 0) = false := by have := h.ki; rw [kp_rm hb (by omega)] at this; simpa using this
    have e1 := h.lv.trans h'.lv.symm
    rw [Ex.LV_at b c i (by omega), Ex.LV_at b c j (by omega)] at e1
    rcases inside (b := b) hF sj (by omega) with g | g
    · have := g z a1.1 (by omega) hrz
      refine nj z a1 hz a3 ?_
      rw [Ex.LV_at b c z hz, Ex.LV_at b c j (by omega)]
      exact this
    · have := g i q (by omega) hri
      omega
theorem nx_inj (hb : b = 0 ∨ b = 1) (hF : Formed c) : Inj (Nx b c) := by
  intro i j k h h'
  rcases h.how with h1 | ⟨s1, p1, n1⟩ <;> rcases h'.how with h2 | ⟨s2, p2, n2⟩
  · exact adj_inj h1 h.ki h2 h'.ki
  · exact cross_inj hb hF h h1 h' s2 p2 n2
  · exact (cross_inj hb hF h' h2 h s1 p1 n1).symm
  · exact part_inj s1 s2 p1 p2 h.lt
theorem run_end {lv : List Int} {rs : List (List Nat)} (hR : Runs lv rs) {k z : Nat} (hk : k < rs.length) (ha : Adj lv (lst rs k) z) (hz : z < lv.length) (hkz : kp lv z = true) : lv.getD z 0 ≠ lv.getD (lst rs k) 0 := by
  by_cases h1 : k + 1 < rs.length
  · obtain ⟨o1, o2⟩ := hR.outer k h1
    have := adj_fun ha hkz o1 (fst_kept hR h1).2
    rw [this, (lst_kept hR hk).2.2]
    exact fun e => o2 e.symm
  · have := hR.after (by omega) z (by rw [show rs.length - 1 = k from by omega]; exact ha.1) hz
    rw [hkz] at this; cases this
theorem chn_nx (hb : b = 0 ∨ b = 1) (hF : Formed c) : ∀ n k, k < (RS (LV b c)).length → (RS (LV b c)).length - k ≤ n →
    Lk (Nx b c) (plc (RS (LV b c)) (chn (fo (Iso.MT c) (RS (LV b c))) n k)) ∧ 0 < (plc (RS (LV b c)) (chn (fo (Iso.MT c) (RS (LV b c))) n k)).length ∧ (plc (RS (LV b c)) (chn (fo (Iso.MT c) (RS (LV b c))) n k)).getD 0 0 = fst (RS (LV b c)) k ∧
      ∃ l, (plc (RS (LV b c)) (chn (fo (Iso.MT c) (RS (LV b c))) n k)).getD ((plc (RS (LV b c)) (chn (fo (Iso.MT c) (RS (LV b c))) n k)).length - 1) 0 = lst (RS (LV b c)) l ∧ l < (RS (LV b c)).length ∧ fo (Iso.MT c) (RS (LV b c)) l = none ∧ ltc (fo (Iso.MT c) (RS (LV b c))) n k = l := by
  have hR := runs_of (LV b c)
  have hlen := Ex.LV_len b c
  intro n
  induction n with
  | zero => intro k hk hn; omega
  | succ n ih =>
    intro k hk hn
    have hrun : Lk (Nx b c) (rn (RS (LV b c)) k) := fun m hm => by
      have k1 := hR.kept k m hk (by omega)
      have k2 := hR.kept k (m + 1) hk hm
      exact ⟨k1.2.1, k2.2.1, by have := k2.1; omega, k1.2.2.trans k2.2.2.symm, .inl (hR.inner k m hk hm)⟩
    have hpos := hR.pos k hk
    rw [chn_succ]
    cases h : fo (Iso.MT c) (RS (LV b c)) k with
    | none =>
      have e : ltc (fo (Iso.MT c) (RS (LV b c))) (n + 1) k = k := by unfold ltc; rw [chn_succ, h]; rfl
      simp only
      rw [plc_one]
      exact ⟨hrun, hpos, rfl, k, rfl, hk, h, e⟩
    | some j =>
      obtain ⟨f1, f2, f3, f4, f5⟩ := fo_some hb hF hk h
      obtain ⟨i1, i2, i3, l, i4, i5, i6, i7⟩ := ih j f2 (by omega)
      have e : ltc (fo (Iso.MT c) (RS (LV b c))) (n + 1) k = ltc (fo (Iso.MT c) (RS (LV b c))) n j := by
        have hne : chn (fo (Iso.MT c) (RS (LV b c))) n j ≠ [] := fun q => by rw [q] at i2; simp [plc] at i2
        unfold ltc
        rw [chn_succ, h]
        simp only
        exact last_append [k] _ hne
      have hcross : Nx b c (lst (RS (LV b c)) k) (fst (RS (LV b c)) j) := by
        have k1 := lst_kept hR hk
        have k2 := fst_kept hR f2
        refine ⟨k1.2.1, k2.2, by have := k2.1; omega, ?_, .inr ⟨f3, f4, fun z a1 a2 a3 => run_end hR hk a1 (by omega) a3⟩⟩
        have := fo_lvl hb hF hk h
        unfold lvl at this
        rw [k1.2.2, this]
      simp only
      rw [show ∀ t : List Nat, k :: t = [k] ++ t from fun _ => rfl, plc_append, plc_one]
      refine ⟨hrun.append i1 (fun _ _ => by rw [i3]; exact hcross), by rw [List.length_append]; omega, ?_, l, ?_, i5, i6, by rw [e, i7]⟩
      · have : ∀ (a d : List Nat), 0 < a.length → (a ++ d).getD 0 0 = a.getD 0 0 := fun a d ha => by simp [List.getD, List.getElem?_append_left ha]
        rw [this _ _ hpos]
        rfl
      · rw [last_append _ _ (List.length_pos_iff.1 i2)]
        exact i4
/-- The level of what stands ahead of a place; of what stands behind one. -/
def Pv (b : Int) (c : List Int) (i : Nat) (v : Int) : Prop :=
  (∃ j, kp (LV b c) j = true ∧ Adj (LV b c) j i ∧ v = (LV b c).getD j 0) ∨ ((∀ z, z < i → kp (LV b c) z = false) ∧ v = b)
def Bv (b : Int) (c : List Int) (i : Nat) (v : Int) : Prop :=
  (Iso.st (c.getD i 0) = true ∧ v = b) ∨ (Iso.st (c.getD i 0) = false ∧ ((∃ j, j < c.length ∧ kp (LV b c) j = true ∧ Adj (LV b c) i j ∧ v = (LV b c).getD j 0) ∨ ((∀ z, i < z → z < c.length → kp (LV b c) z = false) ∧ v = b)))
theorem pv_fun {i : Nat} {v v' : Int} (h : Pv b c i v) (h' : Pv b c i v') : v = v' := by
  rcases h with ⟨j, k1, a1, rfl⟩ | ⟨n1, rfl⟩ <;> rcases h' with ⟨j', k2, a2, rfl⟩ | ⟨n2, rfl⟩
  · rw [adj_inj a1 k1 a2 k2]
  · have := n2 j a1.1; rw [k1] at this; cases this
  · have := n1 j' a2.1; rw [k2] at this; cases this
  · rfl
theorem bv_fun {i : Nat} {v v' : Int} (h : Bv b c i v) (h' : Bv b c i v') : v = v' := by
  rcases h with ⟨s1, rfl⟩ | ⟨s1, h⟩ <;> rcases h' with ⟨s2, rfl⟩ | ⟨s2, h'⟩
  · rfl
  · rw [s1] at s2; cases s2
  · rw [s1] at s2; cases s2
  · rcases h with ⟨j, l1, k1, a1, rfl⟩ | ⟨n1, rfl⟩ <;> rcases h' with ⟨j', l2, k2, a2, rfl⟩ | ⟨n2, rfl⟩
    · rw [adj_fun a1 k1 a2 k2]
    · have := n2 j a1.1 l1; rw [k1] at this; cases this
    · have := n1 j' a2.1 l2; rw [k2] at this; cases this
    · rfl
/-- A sequence as a chain. -/
structure Ends (b : Int) (c : List Int) (s : Sq) : Prop where
  mx : Mx (Nx b c) s.places
  kept : ∀ i ∈ s.places, i < c.length ∧ kp (LV b c) i = true ∧ (LV b c).getD i 0 = s.lvl
  sos : ∃ v, Pv b c (s.places.getD 0 0) v ∧ s.sos = sd s.lvl v
  eos : ∃ v, Bv b c (s.places.getD (s.places.length - 1) 0) v ∧ s.eos = sd s.lvl v
theorem sq_ends (hb : b = 0 ∨ b = 1) (hF : Formed c) {k : Nat} (hk : k < (RS (LV b c)).length) (hbg : bg (Iso.MT c) (RS (LV b c)) k = true) : Ends b c (sq b (LV b c) (Iso.MT c) (RS (LV b c)) k) := by
  have hR := runs_of (LV b c)
  have hlen := Ex.LV_len b c
  obtain ⟨h1, h2, h3, l, h4, h5, h6, h7⟩ := chn_nx hb hF ((RS (LV b c)).length - k) k hk (Nat.le_refl _)
  obtain ⟨_, hpl⟩ := sq_places hb hF hk
  have hfk := fst_kept hR hk
  have hlk := lst_kept hR h5
  have h3' : (sq b (LV b c) (Iso.MT c) (RS (LV b c)) k).places.getD 0 0 = fst (RS (LV b c)) k := h3
  have h4' : (sq b (LV b c) (Iso.MT c) (RS (LV b c)) k).places.getD ((sq b (LV b c) (Iso.MT c) (RS (LV b c)) k).places.length - 1) 0 = lst (RS (LV b c)) l := h4
  refine ⟨⟨h2, h1, ?_, ?_⟩, ?_, ?_, ?_⟩
  · intro i hi
    rw [h3'] at hi
    rcases hi.how with ha | ⟨s1, p1, _⟩
    · by_cases h0 : k = 0
      · subst h0
        have := hR.before (by omega) i ha.1
        rw [hi.ki] at this; cases this
      · obtain ⟨k', rfl⟩ : ∃ k', k = k' + 1 := ⟨k - 1, by omega⟩
        obtain ⟨o1, o2⟩ := hR.outer k' hk
        have hl := lst_kept hR (show k' < (RS (LV b c)).length by omega)
        have := adj_inj ha hi.ki o1 hl.2.1
        have e := hi.lv
        rw [this, hl.2.2] at e
        exact o2 e
    · have := (bg_iff (rs := RS (LV b c)) (k := k) (by omega)).2 ⟨i, by have := Iso.partner_gt c i; omega, s1, p1⟩
      rw [hbg] at this; cases this
  · intro j hj
    rw [h4'] at hj
    rcases hj.how with ha | ⟨s1, p1, _⟩
    · exact run_end hR h5 ha (by have := hj.lt; omega) hj.kj hj.lv.symm
    · have := fo_none hb hF h5 h6 s1
      have := hj.lt
      omega
  · intro i hi
    obtain ⟨p1, p2⟩ := hpl i hi
    refine ⟨p1, ?_, p2⟩
    have hl0 : (sq b (LV b c) (Iso.MT c) (RS (LV b c)) k).lvl = (LV b c).getD (fst (RS (LV b c)) k) 0 := rfl
    have hk0 := hfk.2
    unfold kp at hk0 ⊢
    rw [p2, hl0]; exact hk0
  · rw [h3']
    refine ⟨ah b (LV b c) (RS (LV b c)) k, ?_, rfl⟩
    unfold ah
    by_cases h0 : k = 0
    · subst h0
      rw [if_pos rfl]
      exact .inr ⟨fun z hz => hR.before (by omega) z hz, rfl⟩
    · rw [if_neg h0]
      obtain ⟨k', rfl⟩ : ∃ k', k = k' + 1 := ⟨k - 1, by omega⟩
      have hl := lst_kept hR (show k' < (RS (LV b c)).length by omega)
      exact .inl ⟨_, hl.2.1, (hR.outer k' hk).1, by show lvl _ _ k' = _; unfold lvl; rw [hl.2.2]⟩
  · rw [h4']
    refine ⟨bh b (LV b c) (Iso.MT c) (RS (LV b c)) l, ?_, by show sd _ _ = _; rw [h7]; rfl⟩
    have hen := en_iff (c := c) (rs := RS (LV b c)) (k := l) (by omega)
    unfold bh
    cases hs : Iso.st (c.getD (lst (RS (LV b c)) l) 0) with
    | true =>
      rw [hs] at hen
      rw [hen]
      refine .inl ⟨hs, ?_⟩
      split
      · rfl
      · rw [if_pos rfl]
    | false =>
      rw [hs] at hen
      rw [hen]
      refine .inr ⟨hs, ?_⟩
      by_cases h0 : l = (RS (LV b c)).length - 1
      · rw [if_pos h0]
        exact .inr ⟨fun z z1 z2 => hR.after (by omega) z (by rw [← h0]; exact z1) (by omega), rfl⟩
      · rw [if_neg h0, if_neg (by decide)]
        have hf := fst_kept hR (show l + 1 < (RS (LV b c)).length by omega)
        exact .inl ⟨_, by have := hf.1; omega, hf.2, (hR.outer l (by omega)).1, rfl⟩
/-- All sequences. -/
def SQ (b : Int) (c : List Int) : List Sq := sqs b (LV b c) (Iso.MT c) (RS (LV b c)) (RS (LV b c)).length
theorem SQ_ends (hb : b = 0 ∨ b = 1) (hF : Formed c) : ∀ s ∈ SQ b c, Ends b c s := by
  intro s hs
  unfold SQ sqs at hs
  obtain ⟨k, h1, rfl⟩ := List.mem_map.1 hs
  obtain ⟨h2, h3⟩ := List.mem_filter.1 h1
  exact sq_ends hb hF (List.mem_range.1 h2) h3
theorem SQ_cover (hb : b = 0 ∨ b = 1) (hF : Formed c) {i : Nat} (hi : i < c.length) (hk : kp (LV b c) i = true) : ∃ s ∈ SQ b c, i ∈ s.places := by
  have h := AP_count hb hF i hi
  rw [if_pos hk] at h
  have hm : i ∈ AP b c := List.count_pos_iff.1 (by omega)
  exact List.mem_flatMap.1 hm
theorem Ends.unique (hb : b = 0 ∨ b = 1) (hF : Formed c) {s s' : Sq} (h : Ends b c s) (h' : Ends b c s') {i : Nat} (hi : i ∈ s.places) (hi' : i ∈ s'.places) : s = s' := by
  obtain ⟨m, hm, e⟩ := Lv.mem_getD hi
  obtain ⟨m', hm', e'⟩ := Lv.mem_getD hi'
  have hp := Mx.unique (nx_fun b c) (nx_inj hb hF) h.mx h'.mx hm hm' (e.trans e'.symm)
  have hl : s.lvl = s'.lvl := (h.kept i hi).2.2.symm.trans (h'.kept i hi').2.2
  obtain ⟨v, a1, a2⟩ := h.sos
  obtain ⟨v', a1', a2'⟩ := h'.sos
  obtain ⟨u, b1, b2⟩ := h.eos
  obtain ⟨u', b1', b2'⟩ := h'.eos
  obtain ⟨ps, l, so, eo⟩ := s
  obtain ⟨ps', l', so', eo'⟩ := s'
  simp only at *
  subst hp hl
  rw [a2, a2', pv_fun a1 a1', b2, b2', bv_fun b1 b1']
end
end Go.Proofs.YtmdmehopefgndaaGreatDoor.Rn

/- The levels of a paragraph's places, sequence by sequence, by whatever function of a sequence; and two paragraphs whose sequences correspond: plain mathematics. -/
namespace Go.Proofs.YtmdmehopefgndaaGreatDoor.Rn
set_option linter.unusedVariables false
open Ex (lev LV TY rm Formed)
open Lv (Mx Fun Inj Half)
/-- What stands at some places of a list. -/
def pk (t : List Int) (ps : List Nat) : List Int := ps.map fun i => t.getD i 0
theorem pk_len (t : List Int) (ps : List Nat) : (pk t ps).length = ps.length := by simp [pk]
theorem pk_at (t : List Int) (ps : List Nat) {m : Nat} (hm : m < ps.length) : (pk t ps).getD m 0 = t.getD (ps.getD m 0) 0 := by simp [pk, List.getD, hm]
theorem pk_eq {t t' : List Int} {ps qs : List Nat} (hl : ps.length = qs.length) (h : ∀ k, k < ps.length → t.getD (ps.getD k 0) 0 = t'.getD (qs.getD k 0) 0) : pk t ps = pk t' qs := by
  refine List.ext_getElem (by rw [pk_len, pk_len]; exact hl) fun k h1 h2 => ?_
  rw [pk_len] at h1 h2
  have e := h k h1
  simp only [pk, List.getElem_map]
  simpa [List.getD, h1, h2] using e
/-- Where a place stands in a list of places. -/
def ix (ps : List Nat) (i : Nat) : Nat := ((List.range ps.length).find? fun m => ps.getD m 0 == i).getD 0
theorem ix_at {ps : List Nat} (hinj : ∀ m m', m < ps.length → m' < ps.length → ps.getD m 0 = ps.getD m' 0 → m = m') {m : Nat} (hm : m < ps.length) : ix ps (ps.getD m 0) = m := by
  unfold ix
  cases hf : (List.range ps.length).find? fun k => ps.getD k 0 == ps.getD m 0 with
  | none =>
    have := List.find?_eq_none.1 hf m (List.mem_range.2 hm)
    simp at this
  | some k =>
    have h1 := List.find?_some hf
    have h2 := List.mem_range.1 (List.mem_of_find?_eq_some hf)
    exact hinj k m h2 hm (by simpa using h1)
section
variable {b : Int} {c : List Int}
theorem mx_lt {ps : List Nat} (h : Mx (Nx b c) ps) : ∀ m' m, m < m' → m' < ps.length → ps.getD m 0 < ps.getD m' 0 := by
  intro m'
  induction m' with
  | zero => intro m hm; omega
  | succ m' ih =>
    intro m hm hl
    have h1 := (h.lk m' hl).up
    by_cases hmm : m = m'
    · subst hmm; exact h1
    · have := ih m (by omega) (by omega); omega
theorem mx_inj {ps : List Nat} (h : Mx (Nx b c) ps) : ∀ m m', m < ps.length → m' < ps.length → ps.getD m 0 = ps.getD m' 0 → m = m' := by
  intro m m' hm hm' he
  rcases Nat.lt_trichotomy m m' with h1 | h1 | h1
  · have := mx_lt h m' m h1 hm'; omega
  · exact h1
  · have := mx_lt h m m' h1 hm; omega
/-- What a function of sequences makes of one. -/
def fv (f : List Int → List Int → Int → Int → Int → List Int) (l : List Int) (b : Int) (c : List Int) (s : Sq) : List Int := f (pk l s.places) (pk (TY b c) s.places) s.lvl s.sos s.eos
/-- A place's level. -/
def PV (f : List Int → List Int → Int → Int → Int → List Int) (l : List Int) (b : Int) (c : List Int) (i : Nat) : Int :=
  match (SQ b c).find? fun s => s.places.contains i with
  | some s => (fv f l b c s).getD (ix s.places i) 0
  | none => -1
theorem PV_at (hb : b = 0 ∨ b = 1) (hF : Formed c) (f : List Int → List Int → Int → Int → Int → List Int) (l : List Int) {s : Sq} (hs : s ∈ SQ b c) {m : Nat} (hm : m < s.places.length) : PV f l b c (s.places.getD m 0) = (fv f l b c s).getD m 0 := by
  have hE := SQ_ends hb hF s hs
  have hmem : s.places.getD m 0 ∈ s.places := getD_mem hm
  unfold PV
  cases hf : (SQ b c).find? fun s' => s'.places.contains (s.places.getD m 0) with
  | none =>
    have := List.find?_eq_none.1 hf s hs
    simp only [List.contains_iff_mem] at this
    exact absurd hmem (by simpa using this)
  | some s' =>
    have h1 := List.find?_some hf
    have h2 := List.mem_of_find?_eq_some hf
    have h3 : s.places.getD m 0 ∈ s'.places := by simpa using h1
    have := Ends.unique hb hF hE (SQ_ends hb hF s' h2) hmem h3
    subst this
    show (fv f l b c s).getD (ix s.places (s.places.getD m 0)) 0 = _
    rw [ix_at (mx_inj hE.mx) hm]
theorem PV_gone (hb : b = 0 ∨ b = 1) (hF : Formed c) (f : List Int → List Int → Int → Int → Int → List Int) (l : List Int) {i : Nat} (hk : kp (LV b c) i = false) : PV f l b c i = -1 := by
  unfold PV
  cases hf : (SQ b c).find? fun s' => s'.places.contains i with
  | none => rfl
  | some s' =>
    have h1 := List.find?_some hf
    have h2 := List.mem_of_find?_eq_some hf
    have h3 : i ∈ s'.places := by simpa using h1
    have := ((SQ_ends hb hF s' h2).kept i h3).2.1
    rw [hk] at this; cases this
end
/-- Two paragraphs whose sequences correspond. -/
structure Cor (ρ : Nat → Nat → Prop) (b : Int) (c l : List Int) (c' l' : List Int) : Prop where
  half : Half ρ (Nx b c) (Nx b c')
  half' : Half (Lv.flip ρ) (Nx b c') (Nx b c)
  keep : ∀ i i', ρ i i' → (i < c.length ∧ kp (LV b c) i = true) ∧ (i' < c'.length ∧ kp (LV b c') i' = true)
  lv : ∀ i i', ρ i i' → (LV b c).getD i 0 = (LV b c').getD i' 0
  ty : ∀ i i', ρ i i' → (TY b c).getD i 0 = (TY b c').getD i' 0
  tx : ∀ i i', ρ i i' → l.getD i 0 = l'.getD i' 0
  pv : ∀ i i', ρ i i' → (∀ j, ¬ Nx b c j i) → ∀ v, Pv b c i v → Pv b c' i' v
  bv : ∀ i i', ρ i i' → (∀ j, ¬ Nx b c i j) → ∀ v, Bv b c i v → Bv b c' i' v
theorem Cor.level {ρ : Nat → Nat → Prop} {b : Int} {c l c' l' : List Int} (h : Cor ρ b c l c' l') (hb : b = 0 ∨ b = 1) (hF : Formed c) (hF' : Formed c') (f : List Int → List Int → Int → Int → Int → List Int) {i i' : Nat} (hr : ρ i i') : PV f l b c i = PV f l' b c' i' := by
  obtain ⟨⟨k1, k2⟩, k3, k4⟩ := h.keep i i' hr
  obtain ⟨s, hs, hi⟩ := SQ_cover hb hF k1 k2
  obtain ⟨s', hs', hi'⟩ := SQ_cover hb hF' k3 k4
  have hE := SQ_ends hb hF s hs
  have hE' := SQ_ends hb hF' s' hs'
  obtain ⟨m, hm, rfl⟩ := Lv.mem_getD hi
  obtain ⟨m', hm', rfl⟩ := Lv.mem_getD hi'
  obtain ⟨rfl, h1, h2⟩ := Lv.corr h.half h.half' (nx_fun b c) (nx_inj hb hF) (nx_fun b c') (nx_inj hb hF') hE.mx hE'.mx hm hm' hr
  rw [PV_at hb hF f l hs hm, PV_at hb hF' f l' hs' hm']
  have e1 : pk l s.places = pk l' s'.places := pk_eq h1 fun k hk => h.tx _ _ (h2 k hk)
  have e2 : pk (TY b c) s.places = pk (TY b c') s'.places := pk_eq h1 fun k hk => h.ty _ _ (h2 k hk)
  have e3 : s.lvl = s'.lvl := by
    rw [← (hE.kept _ (getD_mem hm)).2.2, ← (hE'.kept _ (getD_mem hm')).2.2]
    exact h.lv _ _ hr
  have e4 : s.sos = s'.sos := by
    obtain ⟨v, a1, a2⟩ := hE.sos
    obtain ⟨v', b1, b2⟩ := hE'.sos
    have := pv_fun (h.pv _ _ (h2 0 hE.mx.pos) hE.mx.fst v a1) b1
    rw [a2, b2, e3, this]
  have e5 : s.eos = s'.eos := by
    obtain ⟨v, a1, a2⟩ := hE.eos
    obtain ⟨v', b1, b2⟩ := hE'.eos
    have hl := h2 (s.places.length - 1) (by omega)
    rw [show (s'.places.getD (s.places.length - 1) 0) = s'.places.getD (s'.places.length - 1) 0 by rw [h1]] at hl
    have := bv_fun (h.bv _ _ hl hE.mx.lst v a1) b1
    rw [a2, b2, e3, this]
  unfold fv
  rw [e1, e2, e3, e4, e5]
end Go.Proofs.YtmdmehopefgndaaGreatDoor.Rn

/- How far levels go; a separator's level: plain mathematics. -/
namespace Go.Proofs.YtmdmehopefgndaaGreatDoor.Rn
set_option linter.unusedVariables false
open Ex (lev LV TY rm Formed)
open Lv (Mx)
/-- What is known of a function of sequences. -/
structure Fine (f : List Int → List Int → Int → Int → Int → List Int) : Prop where
  len : ∀ tx ty lv so eo, (f tx ty lv so eo).length = ty.length
  range : ∀ tx ty lv so eo, 0 ≤ lv → lv ≤ 125 → (so = 1 ∨ so = 2) → (eo = 1 ∨ eo = 2) → ∀ m, m < ty.length → lv ≤ (f tx ty lv so eo).getD m 0 ∧ (f tx ty lv so eo).getD m 0 ≤ 126
  sep : ∀ tx ty b so, (b = 0 ∨ b = 1) → (so = 1 ∨ so = 2) → 0 < ty.length → ty.getD (ty.length - 1) 0 = 11 → (f tx ty b so (1 + b)).getD (ty.length - 1) 0 = b
section
variable {b : Int} {c : List Int}
theorem LV_hi (hb : b = 0 ∨ b = 1) {i : Nat} (hi : i < c.length) (hk : kp (LV b c) i = true) : b ≤ (LV b c).getD i 0 ∧ (LV b c).getD i 0 ≤ 125 := by
  have hr : rm (c.getD i 0) = false := by have := hk; rw [kp_rm hb hi] at this; simpa using this
  rw [Ex.LV_at b c i hi]
  refine ⟨lev_keep hb hr, ?_⟩
  have hok := (Ex.Ok.at (b := b) c i).mid (c.getD i 0)
  have h1 := hok.ch.hi (by omega)
  unfold Ex.lev Ex.tl
  rw [if_neg (by rw [hr]; decide)]
  split
  · omega
  · exact h1
theorem PV_range (hb : b = 0 ∨ b = 1) (hF : Formed c) {f : List Int → List Int → Int → Int → Int → List Int} (hf : Fine f) (l : List Int) {i : Nat} (hi : i < c.length) (hk : kp (LV b c) i = true) : b ≤ PV f l b c i ∧ PV f l b c i ≤ 126 := by
  obtain ⟨s, hs, hmem⟩ := SQ_cover hb hF hi hk
  have hE := SQ_ends hb hF s hs
  obtain ⟨m, hm, rfl⟩ := Lv.mem_getD hmem
  rw [PV_at hb hF f l hs hm]
  obtain ⟨v, _, e1⟩ := hE.sos
  obtain ⟨u, _, e2⟩ := hE.eos
  have hl := (hE.kept _ (getD_mem hm)).2.2
  have hh := LV_hi hb hi hk
  rw [hl] at hh
  have := hf.range (pk l s.places) (pk (TY b c) s.places) s.lvl s.sos s.eos (by omega) hh.2 (by rw [e1]; exact sd_two _ _) (by rw [e2]; exact sd_two _ _) m (by rw [pk_len]; exact hm)
  unfold fv
  omega
theorem TY_sep {i : Nat} (hi : i < c.length) (hx : c.getD i 0 = 11) : (TY b c).getD i 0 = 11 := by
  rw [Ex.TY_at b c i hi]
  unfold Ex.typ
  rw [hx]
  rfl
theorem LV_sep {i : Nat} (hi : i < c.length) (hx : c.getD i 0 = 11) : (LV b c).getD i 0 = b := by
  rw [Ex.LV_at b c i hi]
  unfold Ex.lev
  rw [hx]
  rfl
theorem PV_sep (hb : b = 0 ∨ b = 1) (hF : Formed c) {f : List Int → List Int → Int → Int → Int → List Int} (hf : Fine f) (l : List Int) {i : Nat} (hi : i < c.length) (hx : c.getD i 0 = 11) : PV f l b c i = b := by
  have hlast := (hF i hi).2.2 hx
  have hk : kp (LV b c) i = true := by rw [kp_rm hb hi, hx]; rfl
  obtain ⟨s, hs, hmem⟩ := SQ_cover hb hF hi hk
  have hE := SQ_ends hb hF s hs
  obtain ⟨m, hm, e⟩ := Lv.mem_getD hmem
  have hml : m = s.places.length - 1 := by
    rcases Nat.lt_or_ge (m + 1) s.places.length with q | q
    · have h1 := mx_lt hE.mx (m + 1) m (by omega) q
      have h2 := (hE.kept _ (getD_mem q)).1
      omega
    · omega
  have hlv : s.lvl = b := by
    rw [← (hE.kept _ (getD_mem hm)).2.2, e]
    exact LV_sep hi hx
  obtain ⟨v, _, e1⟩ := hE.sos
  obtain ⟨u, hu, e2⟩ := hE.eos
  rw [← hml, e] at hu
  have hub : u = b := by
    rcases hu with ⟨s1, _⟩ | ⟨_, ⟨j, j1, j2, j3, _⟩ | ⟨_, rfl⟩⟩
    · rw [hx] at s1; cases s1
    · have := j3.1; omega
    · rfl
  have heo : s.eos = 1 + b := by
    rw [e2, hub, hlv]
    rcases hb with rfl | rfl <;> decide
  rw [← e, PV_at hb hF f l hs hm]
  unfold fv
  rw [hlv, heo]
  have h1 := hf.sep (pk l s.places) (pk (TY b c) s.places) b s.sos hb (by rw [e1]; exact sd_two _ _) (by rw [pk_len]; omega) (by
    rw [pk_len, pk_at _ _ (by omega), ← hml, e]; exact TY_sep hi hx)
  rw [pk_len, ← hml] at h1
  exact h1
end
end Go.Proofs.YtmdmehopefgndaaGreatDoor.Rn
