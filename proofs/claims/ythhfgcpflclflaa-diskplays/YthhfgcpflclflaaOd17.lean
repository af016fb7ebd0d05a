/- The program's disk without its blocks' numbers: one of a footprint F. Its calls. -/
import Derived.Test.YthhfgcpflclflaaCr17
import Derived.Test.YthhfgcpflclflaaWr17
import Derived.Test.YthhfgcpflclflaaFd17
namespace Go.Proofs.Ythhfgcpflclflaa
open Go.RowKit
set_option linter.unusedVariables false
set_option maxHeartbeats 1000000
set_option maxRecDepth 100000
/-- A disk in memory whose blocks are of F. -/
def OD (F : Nat → Prop) (w : World) (g : Nat) (d : Dk.Ds) : Prop := ∃ gl cl vw, PD17 w g gl cl vw d ∧ F g ∧ F gl ∧ ∀ k, vw.ownBlock = some k → F k
section
variable {F G : Nat → Prop} {w w' : World} {g : Nat} {d : Dk.Ds}
theorem OD.mono (h : OD F w g d) (hG : ∀ k, k < w.heap.size → F k → G k) : OD G w g d := by
  obtain ⟨gl, cl, vw, h, h1, h2, h3⟩ := h
  exact ⟨gl, cl, vw, h, hG _ (h.lt _ (.inl rfl)) h1, hG _ (h.lt _ (.inr (.inl rfl))) h2, fun k hk => hG _ (h.lt _ (.inr (.inr hk))) (h3 k hk)⟩
theorem OD.keep (h : OD F w g d) (hm : Mod G w w') (hG : ∀ k, k < w.heap.size → F k → ¬ G k) : OD F w' g d := by
  obtain ⟨gl, cl, vw, h, h1, h2, h3⟩ := h
  refine ⟨gl, cl, vw, h.keep hm fun k hk => hG k (h.lt k hk) ?_, h1, h2, h3⟩
  rcases hk with rfl | rfl | hk
  · exact h1
  · exact h2
  · exact h3 k hk
theorem OD.ko (h : OD F w g d) (hk : KO w w') : OD F w' g d := h.keep (G := fun _ => False) (Mod.of_ko hk) fun _ _ _ q => q
theorem OD.wf (h : OD F w g d) : Dk.Wf d := by
  obtain ⟨gl, cl, vw, h, _⟩ := h
  exact h.wf
theorem OD.lt (h : OD F w g d) : g < w.heap.size := by
  obtain ⟨gl, cl, vw, h, _⟩ := h
  exact h.lt g (.inl rfl)
end
/-- How far a story has come. -/
structure Bd (d : Dk.Ds) (k : Nat) : Prop where
  steps : d.steps ≤ k
  waits : d.waits.length ≤ k
  left : d.left ≤ 9223372036854775807
  lies : d.lies.length ≤ 4096
theorem Bd.mono {d : Dk.Ds} {k j : Nat} (h : Bd d k) (hj : k ≤ j) : Bd d j := ⟨Nat.le_trans h.steps hj, Nat.le_trans h.waits hj, h.left, h.lies⟩
theorem Bd.nw {n : Nat} (h : n ≤ 4096) : Bd (Dk.NW n) 0 := ⟨Nat.le_refl _, Nat.le_refl _, by show (-1 : Int) ≤ _; omega, by simp [Dk.NW]; exact h⟩
theorem Bd.wr {d : Dk.Ds} {k : Nat} (h : Bd d k) (n : Int) (b : List Int) : Bd (Dk.WR d n b).1 (k + 1) := by
  unfold Dk.WR
  split
  · exact h.mono (Nat.le_succ _)
  · split
    · exact h.mono (Nat.le_succ _)
    · split
      · exact h.mono (Nat.le_succ _)
      · refine ⟨Nat.succ_le_succ h.steps, ?_, ?_, h.lies⟩
        · show (d.waits ++ [_]).length ≤ _
          rw [List.length_append, List.length_singleton]
          exact Nat.succ_le_succ h.waits
        · show (if 0 < d.left then d.left - 1 else d.left) ≤ _
          have := h.left
          split <;> omega
theorem Bd.fl {d : Dk.Ds} {k : Nat} (h : Bd d k) : Bd (Dk.FL d).1 (k + 1) := by
  unfold Dk.FL
  split
  · exact h.mono (Nat.le_succ _)
  · refine ⟨Nat.succ_le_succ h.steps, Nat.zero_le _, ?_, ?_⟩
    · show (if 0 < d.left then d.left - 1 else d.left) ≤ _
      have := h.left
      split <;> omega
    · show (Dk.fw _ _ _).length ≤ _
      rw [Dk.fw_len]
      exact h.lies
theorem Bd.sp {d : Dk.Ds} {k : Nat} (h : Bd d k) (n a b : Int) : Bd (Dk.SP d n a b).1 k := by
  unfold Dk.SP
  split
  · exact h
  · exact ⟨h.steps, h.waits, h.left, by show (d.lies.set _ _).length ≤ _; rw [List.length_set]; exact h.lies⟩
theorem Bd.st {d : Dk.Ds} {k : Nat} (h : Bd d k) (n : Int) (hn : n ≤ 9223372036854775807) : Bd (Dk.ST d n).1 k := by
  unfold Dk.ST
  split
  · exact h
  · exact ⟨h.steps, h.waits, hn, h.lies⟩
theorem Bd.cr {d : Dk.Ds} {k : Nat} (h : Bd d k) (kept : List Int) : Bd (Dk.CR d kept) 0 :=
  ⟨Nat.le_refl _, Nat.le_refl _, by show (-1 : Int) ≤ _; omega, by show (Dk.cw _ _ _ _).length ≤ _; rw [Dk.cw_len]; exact h.lies⟩
section
variable {F : Nat → Prop} {w : World} {g : Nat} {d : Dk.Ds} {k : Nat}
theorem onew_ok (w : World) (n : Nat) (h0 : 1 ≤ n) (h1 : n ≤ 4096) :
    Calls Try.prog 9 #[.int .i64 (n : Int)] w fun e w' => ∃ g, e = .returned (.tuple #[.pointer (some ⟨g, 0, none⟩), .int .i64 0]) ∧ OD (fun k => w.heap.size ≤ k) w' g (Dk.NW n) ∧ KO w w' :=
  (pnew_ok w n h0 h1).mono fun e w' ⟨g, gl, cl, he, h, hk, a, b⟩ => ⟨g, he, ⟨gl, cl, _, h, a, b, fun k q => by cases q⟩, hk⟩
theorem oread_any (h : OD F w g d) (n : Int) :
    Calls Try.prog 15 #[.pointer (some ⟨g, 0, none⟩), .int .i64 n] w fun e w' => ∃ a c, e = .returned (.tuple #[.slice a (Dk.RD d n).1.length c, .int .i64 (Dk.RD d n).2]) ∧ Row .u8 w' a (Dk.RD d n).1.length c (Dk.RD d n).1 ∧ KO w w' ∧ ((Dk.RD d n).2 = 0 → c = 64 ∧ ∃ b, a = some ⟨b, 0, none⟩ ∧ w.heap.size ≤ b ∧ w'.heap[b]? = some (.cells (uv (Dk.RD d n).1).toArray 75 (0, 0))) := by
  obtain ⟨gl, cl, vw, h, _⟩ := h
  exact pread_any w g gl cl vw d n h
theorem owaits_any (h : OD F w g d) (hb : Bd d k) (hk : k ≤ 4096) :
    Calls Try.prog 22 #[.pointer (some ⟨g, 0, none⟩)] w fun e w' => ∃ a c, e = .returned (.slice a d.waits.length c) ∧ Row .i64 w' a d.waits.length c (nums d.waits) ∧ KO w w' := by
  obtain ⟨gl, cl, vw, h, _⟩ := h
  exact pwaits_any w g gl cl vw d h (by have := hb.waits; omega)
theorem osteps_any (h : OD F w g d) : Calls Try.prog 23 #[.pointer (some ⟨g, 0, none⟩)] w fun e w' => e = .returned (.int .i64 (d.steps : Int)) ∧ w = w' := by
  obtain ⟨gl, cl, vw, h, _⟩ := h
  exact psteps_any w g gl cl vw d h
theorem osectors_any (h : OD F w g d) : Calls Try.prog 21 #[.pointer (some ⟨g, 0, none⟩)] w fun e w' => e = .returned (.int .i64 (d.lies.length : Int)) ∧ w = w' := by
  obtain ⟨gl, cl, vw, h, _⟩ := h
  exact psectors_any w g gl cl vw d h
theorem ostop_any (h : OD F w g d) (n : Int) : Calls Try.prog 19 #[.pointer (some ⟨g, 0, none⟩), .int .i64 n] w fun e w' => e = .returned (.int .i64 (Dk.ST d n).2) ∧ OD F w' g (Dk.ST d n).1 ∧ Mod F w w' := by
  obtain ⟨gl, cl, vw, h, h1, h2, h3⟩ := h
  exact (pstop_any w g gl cl vw d n h).mono fun e w' ⟨he, h', hm⟩ => ⟨he, ⟨gl, cl, vw, h', h1, h2, h3⟩, hm.mono fun k _ q => by rw [q]; exact h1⟩
theorem ospoil_any (h : OD F w g d) (n a b : Int) (hb : 0 ≤ b ∧ b ≤ 255) :
    Calls Try.prog 20 #[.pointer (some ⟨g, 0, none⟩), .int .i64 n, .int .i64 a, .int .u8 b] w fun e w' => e = .returned (.int .i64 (Dk.SP d n a b).2) ∧ OD F w' g (Dk.SP d n a b).1 ∧ Mod F w w' := by
  obtain ⟨gl, cl, vw, h, h1, h2, h3⟩ := h
  exact (pspoil_any w g gl cl vw d n a b h hb).mono fun e w' ⟨he, h', hm⟩ => ⟨he, ⟨gl, cl, vw, h', h1, h2, h3⟩, hm.mono fun k _ q => by rw [q]; exact h2⟩
theorem oflush_any (h : OD F w g d) (hb : Bd d k) (hk : k ≤ 4096) :
    Calls Try.prog 18 #[.pointer (some ⟨g, 0, none⟩)] w fun e w' => e = .returned (.int .i64 (Dk.FL d).2) ∧ OD F w' g (Dk.FL d).1 ∧ Mod F w w' := by
  obtain ⟨gl, cl, vw, h, h1, h2, h3⟩ := h
  exact (pflush_any w g gl cl vw d h (by have := hb.steps; omega) hb.left).mono fun e w' ⟨he, vw', h', hm, hv⟩ => ⟨he, ⟨gl, cl, vw', h', h1, h2, fun k q => h3 k (hv k q)⟩, hm.mono fun k _ q => by
    rcases q with q | q
    · rw [q]; exact h1
    · rw [q]; exact h2⟩
theorem owrite_any (h : OD F w g d) (hb : Bd d k) (hk : k ≤ 4096) (n : Int) (ao : Option Addr) (m c : Nat) (b : List Int) (hr : Row .u8 w ao m c b) (hy : ∀ x ∈ b, 0 ≤ x ∧ x ≤ 255) :
    Calls Try.prog 17 #[.pointer (some ⟨g, 0, none⟩), .int .i64 n, .slice ao m c] w fun e w' => e = .returned (.int .i64 (Dk.WR d n b).2) ∧ OD (fun k => F k ∨ w.heap.size ≤ k) w' g (Dk.WR d n b).1 ∧ Mod F w w' := by
  obtain ⟨gl, cl, vw, h, h1, h2, h3⟩ := h
  exact (pwrite_any w g gl cl vw d n ao m c b h hr hy (by have := hb.steps; omega) hb.left (by have := hb.waits; omega)).mono fun e w' ⟨he, vw', h', hm, hv⟩ => ⟨he, ⟨gl, cl, vw', h', .inl h1, .inl h2, fun k q => by
    rcases hv k q with q | q
    · exact .inl (h3 k q)
    · exact .inr q⟩, hm.mono fun k _ q => by
    rcases q with q | q
    · rw [q]; exact h1
    · exact h3 k q⟩
theorem ocrash_any (h : OD F w g d) (hb : Bd d k) (ak : Option Addr) (nk ck : Nat) (kept : List Int) (hk : Row .i64 w ak nk ck kept) :
    Calls Try.prog 16 #[.pointer (some ⟨g, 0, none⟩), .slice ak nk ck] w fun e w' => ∃ g', e = .returned (.tuple #[.pointer (some ⟨g', 0, none⟩), .int .i64 0]) ∧ OD (fun k => w.heap.size ≤ k) w' g' (Dk.CR d kept) ∧ KO w w' := by
  obtain ⟨gl, cl, vw, h, h1, h2, h3⟩ := h
  exact (pcrash_any w g gl cl vw d ak nk ck kept h hk (by have := hb.lies; omega)).mono fun e w' ⟨g', gl', cl', he, h', hm, a, b⟩ => ⟨g', he, ⟨gl', cl', _, h', a, b, fun k q => by cases q⟩, hm⟩
end
theorem Bytes.of_sec {b : List Int} (h : ∀ x ∈ b, 0 ≤ x ∧ x ≤ 255) : Bytes b := h
/-- What is read is bytes. -/
theorem RD_bytes {d : Dk.Ds} (h : Dk.Wf d) (n : Int) : ∀ x ∈ (Dk.RD d n).1, 0 ≤ x ∧ x ≤ 255 := by
  unfold Dk.RD
  split
  · intro x hx; cases hx
  · split
    · intro x hx; cases hx
    · rename_i hn _
      have hn : Dk.has d n := Classical.byContradiction hn
      unfold Dk.has at hn
      exact (Dk.rw_sec (h.lies _ (Dk.lie_at (by omega))) h.waits _ (Nat.le_refl _)).2
end Go.Proofs.Ythhfgcpflclflaa
