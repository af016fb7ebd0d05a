/- Sides of sequences, plain paragraphs: plain mathematics. -/
import Derived.Test.YthohbiklnknofaaSm
namespace Go.Proofs.Ythohbiklnknofaa
open Go.RowKit Go.Maps
set_option linter.unusedVariables false
set_option maxHeartbeats 1000000
set_option maxRecDepth 100000
namespace Rn
def kc (c : List Int) (k : Nat) : Nat := ((List.range k).filter fun i => !(Ex.rm (c.getD i 0))).length
theorem kc_succ (c : List Int) (k : Nat) : kc c (k + 1) = kc c k + if Ex.rm (c.getD k 0) then 0 else 1 := by
  unfold kc
  rw [List.range_succ, List.filter_append, List.length_append]
  cases h : Ex.rm (c.getD k 0) <;> (simp only [List.filter_cons, List.filter_nil, h]; rfl)
theorem kc_le (c : List Int) (k : Nat) : kc c k ≤ k := Nat.le_trans (List.length_filter_le _ _) (by simp)
theorem sd_two (a b : Int) : sd a b = 1 ∨ sd a b = 2 := by unfold sd; split <;> simp
theorem sqs_mem {b : Int} {lv mt : List Int} {rs : List (List Nat)} {j : Nat} (h : j < (sqs b lv mt rs rs.length).length) : ∃ k, k < rs.length ∧ bg mt rs k = true ∧ (sqs b lv mt rs rs.length).getD j default = sq b lv mt rs k := by
  have h1 : (sqs b lv mt rs rs.length).getD j default ∈ sqs b lv mt rs rs.length := by
    rw [show (sqs b lv mt rs rs.length).getD j default = (sqs b lv mt rs rs.length)[j] from by simp [List.getD, h]]
    exact List.getElem_mem h
  unfold sqs at h1
  obtain ⟨k, h2, h3⟩ := List.mem_map.1 h1
  obtain ⟨h4, h5⟩ := List.mem_filter.1 h2
  exact ⟨k, List.mem_range.1 h4, h5, h3.symm⟩
theorem sq_side {b : Int} (hb : b = 0 ∨ b = 1) {c : List Int} {j : Nat} (h : j < (sqs b (Ex.LV b c) (Iso.MT c) (RS (Ex.LV b c)) (RS (Ex.LV b c)).length).length) :
    ∃ s, (sqs b (Ex.LV b c) (Iso.MT c) (RS (Ex.LV b c)) (RS (Ex.LV b c)).length).getD j default = s ∧ (s.sos = 1 ∨ s.sos = 2) ∧ (s.eos = 1 ∨ s.eos = 2) ∧ b ≤ s.lvl := by
  obtain ⟨k, h1, h2, h3⟩ := sqs_mem h
  refine ⟨_, rfl, ?_⟩
  rw [h3]
  refine ⟨sd_two _ _, sd_two _ _, ?_⟩
  have hf := fst_kept (runs_of (Ex.LV b c)) h1
  rw [Ex.LV_len] at hf
  have hr : Ex.rm (c.getD (fst (RS (Ex.LV b c)) k) 0) = false := by have := hf.2; rw [kp_rm hb hf.1] at this; simpa using this
  show b ≤ lvl (Ex.LV b c) (RS (Ex.LV b c)) k
  unfold lvl
  rw [Ex.LV_at b c _ hf.1]
  exact lev_keep hb hr
theorem kept_len {b : Int} (hb : b = 0 ∨ b = 1) (c : List Int) : (RS (Ex.LV b c)).flatten.length = kc c c.length := by
  rw [(runs_of (Ex.LV b c)).flat, Ex.LV_len]
  unfold kc
  congr 1
  apply List.filter_congr
  intro i hi
  exact kp_rm hb (List.mem_range.1 hi)
theorem pl_no {c : List Int} : ∀ k, Ex.pl c k = true → ∀ i, i < k → Iso.st (c.getD i 0) = false := by
  intro k
  induction k with
  | zero => intro _ i hi; omega
  | succ k ih =>
    intro h i hi
    simp only [Ex.pl, Bool.and_eq_true, Bool.not_eq_true'] at h
    by_cases hik : i = k
    · subst hik; exact h.2
    · exact ih h.1.1 i (by omega)
/-- Of a plain paragraph there is one sequence, or none. -/
theorem plain {b : Int} (hb : b = 0 ∨ b = 1) {c : List Int} (hF : Ex.Formed c) (hp : Ex.pl c c.length = true) :
    (kc c c.length = 0 ∧ sqs b (Ex.LV b c) (Iso.MT c) (RS (Ex.LV b c)) (RS (Ex.LV b c)).length = []) ∨ (0 < kc c c.length ∧ ∃ ps, sqs b (Ex.LV b c) (Iso.MT c) (RS (Ex.LV b c)) (RS (Ex.LV b c)).length = [⟨ps, b, 1 + b, 1 + b⟩] ∧ ps.length = kc c c.length) := by
  have hR := runs_of (Ex.LV b c)
  have hkl := kept_len hb c
  have hlv : ∀ k, k < (RS (Ex.LV b c)).length → lvl (Ex.LV b c) (RS (Ex.LV b c)) k = b := by
    intro k hk
    have hf := fst_kept hR hk
    have h1 := hf.2
    unfold kp at h1
    rw [Ex.LV_len] at hf
    rw [Ex.LV_at b c _ hf.1] at h1
    unfold lvl
    rw [Ex.LV_at b c _ hf.1]
    rcases (Ex.pl_lev (b := b) hp hf.1).1 with h2 | h2
    · exact h2
    · rw [h2] at h1; simp at h1
  have hN : (RS (Ex.LV b c)).length ≤ 1 := by
    by_cases h : (RS (Ex.LV b c)).length ≤ 1
    · exact h
    · exfalso
      have h1 := (hR.outer 0 (by omega)).2
      have h2 := hlv 0 (by omega)
      have h3 := hlv 1 (by omega)
      unfold lvl at h2 h3
      rw [h2, show (0 : Nat) + 1 = 1 from rfl, h3] at h1
      exact h1 rfl
  have hst := pl_no c.length hp
  generalize RS (Ex.LV b c) = rs at *
  have hcases : rs = [] ∨ ∃ r, rs = [r] := by
    match rs, hN with
    | [], _ => exact .inl rfl
    | [r], _ => exact .inr ⟨r, rfl⟩
    | _ :: _ :: _, h => simp at h
  rcases hcases with rfl | ⟨r, rfl⟩
  · left
    exact ⟨by rw [← hkl]; rfl, rfl⟩
  · right
    have hpos := hR.pos 0 (by simp)
    have hrl : r.length = kc c c.length := by rw [← hkl]; simp
    have e0 : rn [r] 0 = r := rfl
    rw [e0] at hpos
    refine ⟨by omega, ?_⟩
    have hf := fst_kept hR (show 0 < [r].length by simp)
    have hl := lst_kept hR (show 0 < [r].length by simp)
    rw [Ex.LV_len] at hf hl
    have hbg : bg (Iso.MT c) [r] 0 = true := by
      cases hbb : bg (Iso.MT c) [r] 0 with
      | true => rfl
      | false =>
        obtain ⟨i, h1, h2, h3⟩ := (bg_iff hf.1).1 hbb
        have := hst i (by omega)
        rw [h2] at this
        cases this
    have hfo : fo (Iso.MT c) [r] 0 = none := by
      unfold fo
      rw [en_iff hl.1, hst _ hl.1]
      rfl
    have hch : chn (fo (Iso.MT c) [r]) ([r].length - 0) 0 = [0] := by
      show chn (fo (Iso.MT c) [r]) (0 + 1) 0 = [0]
      rw [chn_succ, hfo]
    have hlt : ltc (fo (Iso.MT c) [r]) ([r].length - 0) 0 = 0 := by unfold ltc; rw [hch]; rfl
    have hsd : sd b b = 1 + b := by rcases hb with rfl | rfl <;> decide
    refine ⟨r, ?_, hrl⟩
    unfold sqs
    rw [show [r].length = 1 from rfl, show List.range 1 = [0] from rfl]
    simp only [List.filter_cons, hbg, if_true, List.filter_nil, List.map_cons, List.map_nil]
    unfold sq
    rw [hch, hlt, hlv 0 (by simp), plc_one, e0]
    have e1 : ah b (Ex.LV b c) [r] 0 = b := rfl
    have e2 : bh b (Ex.LV b c) (Iso.MT c) [r] 0 = b := rfl
    rw [e1, e2, hsd]
end Rn
end Go.Proofs.Ythohbiklnknofaa
