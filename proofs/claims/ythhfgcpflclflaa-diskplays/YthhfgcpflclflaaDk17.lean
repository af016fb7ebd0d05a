/- A disk of sectors, what lies on it and what waits: plain mathematics. -/
import Derived.Test.YthhfgcpflclflaaLists
namespace Go.Proofs.Ythhfgcpflclflaa
set_option linter.unusedVariables false
namespace Dk
/-- What lies, what waits, how many steps were done, how many are left (below 0: it is not stopped). -/
structure Ds where
  lies : List (List Int)
  waits : List (Nat × List Int)
  steps : Nat
  left : Int
/-- A sector. -/
def Sec (s : List Int) : Prop := s.length = 64 ∧ ∀ x ∈ s, 0 ≤ x ∧ x ≤ 255
/-- A disk as calls leave it. -/
structure Wf (d : Ds) : Prop where
  lies : ∀ s ∈ d.lies, Sec s
  waits : ∀ w ∈ d.waits, w.1 < d.lies.length ∧ Sec w.2
  left : -1 ≤ d.left
  some : 1 ≤ d.lies.length
def has (d : Ds) (n : Int) : Prop := 0 ≤ n ∧ n < (d.lies.length : Int)
instance (d : Ds) (n : Int) : Decidable (has d n) := inferInstanceAs (Decidable (_ ∧ _))
/-- A step is done. -/
def tick (d : Ds) : Ds := { d with steps := d.steps + 1, left := if 0 < d.left then d.left - 1 else d.left }
theorem tick_lies (d : Ds) : (tick d).lies = d.lies := rfl
theorem tick_waits (d : Ds) : (tick d).waits = d.waits := rfl
theorem tick_steps (d : Ds) : (tick d).steps = d.steps + 1 := rfl
theorem tick_wf {d : Ds} (h : Wf d) : Wf (tick d) := ⟨h.lies, h.waits, by show -1 ≤ (if 0 < d.left then d.left - 1 else d.left); have := h.left; split <;> omega, h.some⟩
/-- What is read of a sector behind the first k writes that wait. -/
def rw' (ws : List (Nat × List Int)) (n : Nat) (s : List Int) : Nat → List Int
  | 0 => s
  | k + 1 => if (ws.getD k (0, [])).1 = n then (ws.getD k (0, [])).2 else rw' ws n s k
/-- Read. -/
def RD (d : Ds) (n : Int) : List Int × Int :=
  if ¬ has d n then ([], 4) else if d.left = 0 then ([], 170) else (rw' d.waits n.toNat (d.lies.getD n.toNat []) d.waits.length, 0)
/-- Write. -/
def WR (d : Ds) (n : Int) (b : List Int) : Ds × Int :=
  if ¬ has d n then (d, 4) else if b.length ≠ 64 then (d, 2) else if d.left = 0 then (d, 170) else (tick { d with waits := d.waits ++ [(n.toNat, b)] }, 0)
/-- What lies behind the first k writes that were flushed. -/
def fw (ws : List (Nat × List Int)) (ls : List (List Int)) : Nat → List (List Int)
  | 0 => ls
  | k + 1 => (fw ws ls k).set (ws.getD k (0, [])).1 (ws.getD k (0, [])).2
/-- Flush. -/
def FL (d : Ds) : Ds × Int := if d.left = 0 then (d, 170) else (tick { d with lies := fw d.waits d.lies d.waits.length, waits := [] }, 0)
/-- Stop. -/
def ST (d : Ds) (n : Int) : Ds × Int := if n < 0 then (d, 2) else ({ d with left := n }, 0)
/-- Spoil. -/
def SP (d : Ds) (n at' by' : Int) : Ds × Int :=
  if ¬ has d n ∨ at' < 0 ∨ 64 ≤ at' then (d, 4) else ({ d with lies := d.lies.set n.toNat ((d.lies.getD n.toNat []).set at'.toNat by') }, 0)
/-- How many bytes are kept. -/
def kp (k : Int) : Nat := if k < 0 then 0 else if 64 < k then 64 else k.toNat
theorem kp_le (k : Int) : kp k ≤ 64 := by unfold kp; split; · omega
                                          split <;> omega
/-- A sector of which the beginning was written anew. -/
def torn (k : Int) (new old : List Int) : List Int := new.take (kp k) ++ old.drop (kp k)
/-- What lies behind the first k writes that a crash left in part. -/
def cw (kept : List Int) (ws : List (Nat × List Int)) (ls : List (List Int)) : Nat → List (List Int)
  | 0 => ls
  | k + 1 => (cw kept ws ls k).set (ws.getD k (0, [])).1 (torn (kept.getD k 0) (ws.getD k (0, [])).2 ((cw kept ws ls k).getD (ws.getD k (0, [])).1 []))
/-- Crash. -/
def CR (d : Ds) (kept : List Int) : Ds := { lies := cw kept d.waits d.lies d.waits.length, waits := [], steps := 0, left := -1 }
/-- A new disk. -/
def NW (n : Nat) : Ds := { lies := List.replicate n (List.replicate 64 0), waits := [], steps := 0, left := -1 }
theorem zero_sec : Sec (List.replicate 64 0) := ⟨by simp, fun x hx => by rw [(List.mem_replicate.1 hx).2]; omega⟩
theorem NW_wf {n : Nat} (h : 1 ≤ n) : Wf (NW n) := ⟨fun s hs => by rw [(List.mem_replicate.1 hs).2]; exact zero_sec, fun w hw => by simp [NW] at hw, by show (-1 : Int) ≤ -1; omega, by simp [NW]; exact h⟩
section
variable {ws : List (Nat × List Int)} {ls : List (List Int)} {kept : List Int}
theorem fw_len : ∀ k, (fw ws ls k).length = ls.length
  | 0 => rfl
  | k + 1 => by rw [fw, List.length_set, fw_len k]
theorem cw_len : ∀ k, (cw kept ws ls k).length = ls.length
  | 0 => rfl
  | k + 1 => by rw [cw, List.length_set, cw_len k]
theorem wait_at {k : Nat} (h : k < ws.length) : ws.getD k (0, []) ∈ ws := by
  have : ws.getD k (0, []) = ws[k] := by simp [List.getD, h]
  rw [this]; exact List.getElem_mem h
theorem lie_at {n : Nat} (h : n < ls.length) : ls.getD n [] ∈ ls := by
  have : ls.getD n [] = ls[n] := by simp [List.getD, h]
  rw [this]; exact List.getElem_mem h
theorem set_mem {α : Type} {l : List α} {i : Nat} {x y : α} (h : y ∈ l.set i x) : y ∈ l ∨ y = x := by
  obtain ⟨j, hj, e⟩ := List.mem_iff_getElem.1 h
  rw [List.getElem_set] at e
  split at e
  · exact .inr e.symm
  · exact .inl (e ▸ List.getElem_mem _)
theorem fw_sec (hl : ∀ s ∈ ls, Sec s) (hw : ∀ w ∈ ws, w.1 < ls.length ∧ Sec w.2) : ∀ k, k ≤ ws.length → ∀ s ∈ fw ws ls k, Sec s
  | 0, _, s, hs => hl s hs
  | k + 1, hk, s, hs => by
    rw [fw] at hs
    rcases set_mem hs with h | h
    · exact fw_sec hl hw k (by omega) s h
    · rw [h]; exact (hw _ (wait_at (by omega))).2
theorem torn_sec {k : Int} {a b : List Int} (ha : Sec a) (hb : Sec b) : Sec (torn k a b) := by
  unfold torn
  have := kp_le k
  refine ⟨by rw [List.length_append, List.length_take, List.length_drop, ha.1, hb.1]; omega, fun x hx => ?_⟩
  rcases List.mem_append.1 hx with h | h
  · exact ha.2 x (List.mem_of_mem_take h)
  · exact hb.2 x (List.mem_of_mem_drop h)
theorem cw_sec (hl : ∀ s ∈ ls, Sec s) (hw : ∀ w ∈ ws, w.1 < ls.length ∧ Sec w.2) : ∀ k, k ≤ ws.length → ∀ s ∈ cw kept ws ls k, Sec s
  | 0, _, s, hs => hl s hs
  | k + 1, hk, s, hs => by
    have hin := hw _ (wait_at (ws := ws) (k := k) (by omega))
    rw [cw] at hs
    rcases set_mem hs with h | h
    · exact cw_sec hl hw k (by omega) s h
    · rw [h]
      exact torn_sec hin.2 (cw_sec hl hw k (by omega) _ (lie_at (by rw [cw_len]; exact hin.1)))
theorem rw_sec {n : Nat} {s : List Int} (hs : Sec s) (hw : ∀ w ∈ ws, w.1 < ls.length ∧ Sec w.2) : ∀ k, k ≤ ws.length → Sec (rw' ws n s k)
  | 0, _ => hs
  | k + 1, hk => by
    rw [rw']
    split
    · exact (hw _ (wait_at (by omega))).2
    · exact rw_sec hs hw k (by omega)
theorem set_at {i n : Nat} {x : List Int} (hn : n < ls.length) : (ls.set i x).getD n [] = if i = n then x else ls.getD n [] := by
  have hl : (ls.set i x).length = ls.length := List.length_set
  simp only [List.getD, List.getElem?_eq_getElem hn, List.getElem?_eq_getElem (show n < (ls.set i x).length by rw [hl]; exact hn), Option.getD_some, List.getElem_set]
theorem set_other {i n : Nat} {x : List Int} (h : n ≠ i) : (ls.set i x).getD n [] = ls.getD n [] := by
  simp only [List.getD, List.getElem?_set_ne (Ne.symm h)]
/-- What is read behind a flush is what was read ahead of it. -/
theorem fw_read {n : Nat} (hw : ∀ w ∈ ws, w.1 < ls.length) (hn : n < ls.length) : ∀ k, k ≤ ws.length → (fw ws ls k).getD n [] = rw' ws n (ls.getD n []) k
  | 0, _ => rfl
  | k + 1, hk => by
    have hin := hw _ (wait_at (ws := ws) (k := k) (by omega))
    have ih := fw_read hw hn k (by omega)
    rw [fw, rw', set_at (by rw [fw_len]; exact hn), ih]
end
theorem CR_none {d : Ds} (h : d.waits = []) (kept : List Int) : (CR d kept).lies = d.lies := by
  unfold CR
  rw [h]
  rfl
theorem WR_wf {d : Ds} {n : Int} {b : List Int} (h : Wf d) (hb : ∀ x ∈ b, 0 ≤ x ∧ x ≤ 255) : Wf (WR d n b).1 := by
  unfold WR
  split
  · exact h
  · rename_i hn
    split
    · exact h
    · rename_i hl
      split
      · exact h
      · refine tick_wf ⟨h.lies, fun w hw => ?_, h.left, h.some⟩
        have hn : has d n := Classical.byContradiction hn
        have hl : b.length = 64 := Classical.byContradiction hl
        rcases List.mem_append.1 hw with g | g
        · exact h.waits w g
        · rw [List.mem_singleton] at g
          subst g
          unfold has at hn
          exact ⟨by show n.toNat < d.lies.length; omega, hl, hb⟩
theorem FL_wf {d : Ds} (h : Wf d) : Wf (FL d).1 := by
  unfold FL
  split
  · exact h
  · refine tick_wf ⟨fw_sec h.lies h.waits _ (Nat.le_refl _), fun w hw => (by cases hw), h.left, ?_⟩
    show 1 ≤ (fw d.waits d.lies d.waits.length).length
    rw [fw_len]; exact h.some
theorem ST_wf {d : Ds} {n : Int} (h : Wf d) : Wf (ST d n).1 := by
  unfold ST
  split
  · exact h
  · exact ⟨h.lies, h.waits, by show -1 ≤ n; omega, h.some⟩
theorem SP_wf {d : Ds} {n a b : Int} (h : Wf d) (hb : 0 ≤ b ∧ b ≤ 255) : Wf (SP d n a b).1 := by
  unfold SP
  split
  · exact h
  · rename_i hn
    have hh : has d n := Classical.byContradiction fun g => hn (.inl g)
    unfold has at hh
    refine ⟨fun s hs => ?_, fun w hw => ⟨?_, (h.waits w hw).2⟩, h.left, by show 1 ≤ (d.lies.set _ _).length; rw [List.length_set]; exact h.some⟩
    · rcases set_mem hs with g | g
      · exact h.lies s g
      · have h0 := h.lies _ (lie_at (ls := d.lies) (n := n.toNat) (by omega))
        rw [g]
        refine ⟨by rw [List.length_set]; exact h0.1, fun x hx => ?_⟩
        rcases set_mem hx with q | q
        · exact h0.2 x q
        · rw [q]; exact hb
    · show w.1 < (d.lies.set _ _).length
      rw [List.length_set]; exact (h.waits w hw).1
theorem CR_wf {d : Ds} {kept : List Int} (h : Wf d) : Wf (CR d kept) := by
  refine ⟨cw_sec h.lies h.waits _ (Nat.le_refl _), fun w hw => (by cases hw), by show (-1 : Int) ≤ -1; omega, ?_⟩
  show 1 ≤ (cw kept d.waits d.lies d.waits.length).length
  rw [cw_len]; exact h.some
/-- One write of a sector waits: a crash leaves its beginning. -/
theorem CR_torn {d : Ds} {n : Nat} {b : List Int} {k : Int} (h : d.waits = [(n, b)]) (hn : n < d.lies.length) : (CR d [k]).lies.getD n [] = torn k b (d.lies.getD n []) ∧ ∀ j, j ≠ n → (CR d [k]).lies.getD j [] = d.lies.getD j [] := by
  unfold CR
  rw [h]
  refine ⟨?_, fun j hj => ?_⟩
  · show (d.lies.set n (torn k b (d.lies.getD n []))).getD n [] = _
    rw [set_at hn, if_pos rfl]
  · show (d.lies.set n (torn k b (d.lies.getD n []))).getD j [] = _
    exact set_other hj
end Dk
end Go.Proofs.Ythhfgcpflclflaa
