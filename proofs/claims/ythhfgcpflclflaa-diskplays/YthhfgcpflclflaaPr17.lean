/- The program's disk beside the document's: both lie, apart from each other, in blocks of P. -/
import Derived.Test.YthhfgcpflclflaaOd17
import Derived.Test.YthhfgcpflclflaaRp17
import Derived.Test.YthhfgcpflclflaaRc17
namespace Go.Proofs.Ythhfgcpflclflaa
open Go.RowKit
set_option linter.unusedVariables false
set_option maxHeartbeats 1000000
set_option maxRecDepth 100000
/-- The document's disk in memory, its blocks of F. -/
def RO (F : Nat → Prop) (w : World) (g : Nat) (d : Dk.Ds) : Prop := ∃ gl cl vw, RD17 w g gl cl vw d ∧ F g ∧ F gl ∧ (∀ k, vw.ownBlock = some k → F k) ∧ Dk.Wf d ∧ ∀ k, RF g gl vw k → k < w.heap.size
theorem RD17.lt' {w : World} {g gl cl : Nat} {vw : Value} {d : Dk.Ds} (h : RD17 w g gl cl vw d) : ∀ k, RF g gl vw k → k < w.heap.size := by
  rintro k (rfl | rfl | hk)
  · exact (Array.getElem?_eq_some_iff.1 h.disk).1
  · exact (h.lies.lt _ rfl).2
  · exact (h.waits.lt _ hk).2
section
variable {F G : Nat → Prop} {w w' : World} {g : Nat} {d : Dk.Ds}
theorem RO.mk' {gl cl : Nat} {vw : Value} (h : RD17 w g gl cl vw d) (h1 : F g) (h2 : F gl) (h3 : ∀ k, vw.ownBlock = some k → F k) (hw : Dk.Wf d) : RO F w g d := ⟨gl, cl, vw, h, h1, h2, h3, hw, h.lt'⟩
theorem RO.mono (h : RO F w g d) (hG : ∀ k, k < w.heap.size → F k → G k) : RO G w g d := by
  obtain ⟨gl, cl, vw, h, h1, h2, h3, hw, hl⟩ := h
  exact ⟨gl, cl, vw, h, hG _ (hl _ (.inl rfl)) h1, hG _ (hl _ (.inr (.inl rfl))) h2, fun k hk => hG _ (hl _ (.inr (.inr hk))) (h3 k hk), hw, hl⟩
theorem RO.keep (h : RO F w g d) (hm : Mod G w w') (hG : ∀ k, k < w.heap.size → F k → ¬ G k) : RO F w' g d := by
  obtain ⟨gl, cl, vw, h, h1, h2, h3, hw, hl⟩ := h
  have h' := h.keep hm fun k hk => hG k (hl k hk) (by
    rcases hk with rfl | rfl | hk
    · exact h1
    · exact h2
    · exact h3 k hk)
  exact ⟨gl, cl, vw, h', h1, h2, h3, hw, h'.lt'⟩
theorem RO.ko (h : RO F w g d) (hk : KO w w') : RO F w' g d := h.keep (G := fun _ => False) (Mod.of_ko hk) fun _ _ _ q => q
theorem RO.wf (h : RO F w g d) : Dk.Wf d := by
  obtain ⟨gl, cl, vw, h, _, _, _, hw, _⟩ := h
  exact hw
theorem rolim {k : Nat} (hw : Dk.Wf d) (hb : Bd d k) : d.left ≤ 9223372036854775807 ∧ -1 ≤ d.left := ⟨hb.left, hw.left⟩
theorem xread_any (h : RO F w g d) (n : Int) :
    Calls Try.prog 32 #[.pointer (some ⟨g, 0, none⟩), .int .i64 n] w fun e w' => e = .returned (.tuple #[.string (str (Dk.RD d n).1), .int .i64 (Dk.RD d n).2]) ∧ w = w' := by
  obtain ⟨gl, cl, vw, h, _⟩ := h
  exact rread_any w g gl cl vw d n h
theorem xnew_ok (w : World) (n : Nat) (h0 : 1 ≤ n) (h1 : n ≤ 4096) :
    Calls Try.prog 10 #[.int .i64 (n : Int)] w fun e w' => ∃ g, e = .returned (.tuple #[.pointer (some ⟨g, 0, none⟩), .int .i64 0]) ∧ RO (fun k => w.heap.size ≤ k) w' g (Dk.NW n) ∧ KO w w' :=
  (rnew_ok w n h0 h1).mono fun e w' ⟨g, gl, cl, he, h, hk, a, b⟩ => ⟨g, he, RO.mk' h a b (fun k q => by cases q) (Dk.NW_wf h0), hk⟩
theorem xstop_any (h : RO F w g d) (n : Int) : Calls Try.prog 28 #[.pointer (some ⟨g, 0, none⟩), .int .i64 n] w fun e w' => e = .returned (.int .i64 (Dk.ST d n).2) ∧ RO F w' g (Dk.ST d n).1 ∧ Mod F w w' := by
  obtain ⟨gl, cl, vw, h, h1, h2, h3, hw, _⟩ := h
  exact (rstop_any w g gl cl vw d n h).mono fun e w' ⟨he, h', hm⟩ => ⟨he, RO.mk' h' h1 h2 h3 (Dk.ST_wf hw), hm.mono fun k _ q => by rw [q]; exact h1⟩
theorem xspoil_any (h : RO F w g d) (n a b : Int) (hb : 0 ≤ b ∧ b ≤ 255) :
    Calls Try.prog 29 #[.pointer (some ⟨g, 0, none⟩), .int .i64 n, .int .i64 a, .int .u8 b] w fun e w' => e = .returned (.int .i64 (Dk.SP d n a b).2) ∧ RO F w' g (Dk.SP d n a b).1 ∧ Mod F w w' := by
  obtain ⟨gl, cl, vw, h, h1, h2, h3, hw, _⟩ := h
  exact (rspoil_any w g gl cl vw d n a b h hw hb).mono fun e w' ⟨he, h', hm⟩ => ⟨he, RO.mk' h' h1 h2 h3 (Dk.SP_wf hw hb), hm.mono fun k _ q => by rw [q]; exact h2⟩
theorem xflush_any {k : Nat} (h : RO F w g d) (hb : Bd d k) (hk : k ≤ 4096) :
    Calls Try.prog 27 #[.pointer (some ⟨g, 0, none⟩)] w fun e w' => e = .returned (.int .i64 (Dk.FL d).2) ∧ RO F w' g (Dk.FL d).1 ∧ Mod F w w' := by
  obtain ⟨gl, cl, vw, h, h1, h2, h3, hw, _⟩ := h
  exact (rflush_any w g gl cl vw d h hw (by have := hb.steps; omega) (rolim hw hb)).mono fun e w' ⟨he, vw', h', hm, hv⟩ => ⟨he, RO.mk' h' h1 h2 (fun k q => h3 k (hv k q)) (Dk.FL_wf hw), hm.mono fun k _ q => by
    rcases q with q | q
    · rw [q]; exact h1
    · rw [q]; exact h2⟩
theorem xwrite_any {k : Nat} (h : RO F w g d) (hb : Bd d k) (hk : k ≤ 4096) (n : Int) (b : List Int) (hy : ∀ x ∈ b, 0 ≤ x ∧ x ≤ 255) :
    Calls Try.prog 26 #[.pointer (some ⟨g, 0, none⟩), .int .i64 n, .string (str b)] w fun e w' => e = .returned (.int .i64 (Dk.WR d n b).2) ∧ RO (fun k => F k ∨ w.heap.size ≤ k) w' g (Dk.WR d n b).1 ∧ Mod F w w' := by
  obtain ⟨gl, cl, vw, h, h1, h2, h3, hw, _⟩ := h
  exact (rwrite_any w g gl cl vw d n b h (by have := hb.steps; omega) (rolim hw hb) (by have := hb.waits; omega)).mono fun e w' ⟨he, vw', h', hm, hv⟩ => ⟨he, RO.mk' h' (.inl h1) (.inl h2) (fun k q => by
    rcases hv k q with q | q
    · exact .inl (h3 k q)
    · exact .inr q) (Dk.WR_wf hw hy), hm.mono fun k _ q => by rw [q]; exact h1⟩
theorem xcrash_any {k : Nat} (h : RO F w g d) (hb : Bd d k) (ak : Option Addr) (nk ck : Nat) (kept : List Int) (hk : Row .i64 w ak nk ck kept) :
    Calls Try.prog 31 #[.pointer (some ⟨g, 0, none⟩), .slice ak nk ck] w fun e w' => ∃ g', e = .returned (.pointer (some ⟨g', 0, none⟩)) ∧ RO (fun k => w.heap.size ≤ k) w' g' (Dk.CR d kept) ∧ KO w w' := by
  obtain ⟨gl, cl, vw, h, h1, h2, h3, hw, _⟩ := h
  exact (rcrash_any w g gl cl vw d ak nk ck kept h hw hk (by have := hb.lies; omega)).mono fun e w' ⟨g', gl', cl', he, h', hm, a, b⟩ => ⟨g', he, RO.mk' h' a b (fun k q => by cases q) (Dk.CR_wf hw), hm⟩
end
/-- Both lie, apart from each other, in blocks of P; whatever is new is of P. -/
def PR (P : Nat → Prop) (w : World) (g r : Nat) (d e : Dk.Ds) : Prop :=
  ∃ F G : Nat → Prop, OD F w g d ∧ RO G w r e ∧ (∀ x, x < w.heap.size → F x → ¬ G x) ∧ (∀ x, x < w.heap.size → F x → P x) ∧ (∀ x, x < w.heap.size → G x → P x) ∧ ∀ x, w.heap.size ≤ x → P x
section
variable {P H : Nat → Prop} {w w' : World} {g r : Nat} {d e d' e' : Dk.Ds}
theorem PR.od (h : PR P w g r d e) : OD P w g d := by
  obtain ⟨F, G, h1, h2, h3, h4, h5, h6⟩ := h
  exact h1.mono h4
theorem PR.ro (h : PR P w g r d e) : RO P w r e := by
  obtain ⟨F, G, h1, h2, h3, h4, h5, h6⟩ := h
  exact h2.mono h5
theorem PR.keep (h : PR P w g r d e) (hm : Mod H w w') (hH : ∀ x, x < w.heap.size → P x → ¬ H x) : PR P w' g r d e := by
  obtain ⟨F, G, h1, h2, h3, h4, h5, h6⟩ := h
  refine ⟨fun x => F x ∧ x < w.heap.size, fun x => G x ∧ x < w.heap.size, ?_, ?_, fun x _ q1 q2 => h3 x q1.2 q1.1 q2.1, fun x _ q => h4 x q.2 q.1, fun x _ q => h5 x q.2 q.1, fun x q => h6 x (Nat.le_trans hm.size q)⟩
  · exact (h1.mono (G := fun x => F x ∧ x < w.heap.size) fun x hx q => ⟨q, hx⟩).keep hm fun x hx q => hH x hx (h4 x q.2 q.1)
  · exact (h2.mono (G := fun x => G x ∧ x < w.heap.size) fun x hx q => ⟨q, hx⟩).keep hm fun x hx q => hH x hx (h5 x q.2 q.1)
theorem PR.ko (h : PR P w g r d e) (hk : KO w w') : PR P w' g r d e := h.keep (H := fun _ => False) (Mod.of_ko hk) fun _ _ _ q => q
/-- What was made meanwhile is none of theirs. -/
theorem PR.skip (h : PR P w g r d e) (hk : KO w w') : PR (fun x => P x ∧ ¬ (w.heap.size ≤ x ∧ x < w'.heap.size)) w' g r d e := by
  obtain ⟨F, G, h1, h2, h3, h4, h5, h6⟩ := h
  refine ⟨fun x => F x ∧ x < w.heap.size, fun x => G x ∧ x < w.heap.size, ?_, ?_, fun x _ q1 q2 => h3 x q1.2 q1.1 q2.1, fun x _ q => ⟨h4 x q.2 q.1, by omega⟩, fun x _ q => ⟨h5 x q.2 q.1, by omega⟩, fun x q => ⟨h6 x (Nat.le_trans hk.size q), by omega⟩⟩
  · exact (h1.mono (G := fun x => F x ∧ x < w.heap.size) fun x hx q => ⟨q, hx⟩).ko hk
  · exact (h2.mono (G := fun x => G x ∧ x < w.heap.size) fun x hx q => ⟨q, hx⟩).ko hk
theorem PR.mono {Q : Nat → Prop} (h : PR P w g r d e) (hQ : ∀ x, P x → Q x) : PR Q w g r d e := by
  obtain ⟨F, G, h1, h2, h3, h4, h5, h6⟩ := h
  exact ⟨F, G, h1, h2, h3, fun x a b => hQ x (h4 x a b), fun x a b => hQ x (h5 x a b), fun x a => hQ x (h6 x a)⟩
/-- The program's disk goes a step on; the document's one does. -/
theorem PR.go_d (h : PR P w g r d e) : ∃ F : Nat → Prop, OD F w g d ∧ ∀ w' d', OD (fun x => F x ∨ w.heap.size ≤ x) w' g d' → Mod F w w' → PR P w' g r d' e ∧ Mod P w w' := by
  obtain ⟨F, G, h1, h2, h3, h4, h5, h6⟩ := h
  refine ⟨fun x => F x ∧ x < w.heap.size, h1.mono fun x hx q => ⟨q, hx⟩, fun w' d' ho hm => ⟨⟨fun x => (F x ∧ x < w.heap.size) ∨ w.heap.size ≤ x, fun x => G x ∧ x < w.heap.size, ho, ?_, fun x _ q1 q2 => ?_, fun x _ q => ?_, fun x _ q => h5 x q.2 q.1, fun x q => h6 x (Nat.le_trans hm.size q)⟩, hm.mono fun x hx q => h4 x q.2 q.1⟩⟩
  · exact (h2.mono (G := fun x => G x ∧ x < w.heap.size) fun x hx q => ⟨q, hx⟩).keep hm fun x hx q1 q2 => h3 x hx q2.1 q1.1
  · rcases q1 with q1 | q1
    · exact h3 x q1.2 q1.1 q2.1
    · have := q2.2; omega
  · rcases q with q | q
    · exact h4 x q.2 q.1
    · exact h6 x q
theorem PR.go_r (h : PR P w g r d e) : ∃ G : Nat → Prop, RO G w r e ∧ ∀ w' e', RO (fun x => G x ∨ w.heap.size ≤ x) w' r e' → Mod G w w' → PR P w' g r d e' ∧ Mod P w w' := by
  obtain ⟨F, G, h1, h2, h3, h4, h5, h6⟩ := h
  refine ⟨fun x => G x ∧ x < w.heap.size, h2.mono fun x hx q => ⟨q, hx⟩, fun w' e' ho hm => ⟨⟨fun x => F x ∧ x < w.heap.size, fun x => (G x ∧ x < w.heap.size) ∨ w.heap.size ≤ x, ?_, ho, fun x _ q1 q2 => ?_, fun x _ q => h4 x q.2 q.1, fun x _ q => ?_, fun x q => h6 x (Nat.le_trans hm.size q)⟩, hm.mono fun x hx q => h5 x q.2 q.1⟩⟩
  · exact (h1.mono (G := fun x => F x ∧ x < w.heap.size) fun x hx q => ⟨q, hx⟩).keep hm fun x hx q1 q2 => h3 x hx q1.1 q2.1
  · rcases q2 with q2 | q2
    · exact h3 x q2.2 q1.1 q2.1
    · have := q1.2; omega
  · rcases q with q | q
    · exact h5 x q.2 q.1
    · exact h6 x q
theorem pd_write {k : Nat} (h : PR P w g r d e) (hb : Bd d k) (hk : k ≤ 4096) (n : Int) (ao : Option Addr) (m c : Nat) (b : List Int) (hr : Row .u8 w ao m c b) (hy : ∀ x ∈ b, 0 ≤ x ∧ x ≤ 255) :
    Calls Try.prog 17 #[.pointer (some ⟨g, 0, none⟩), .int .i64 n, .slice ao m c] w fun x w' => x = .returned (.int .i64 (Dk.WR d n b).2) ∧ PR P w' g r (Dk.WR d n b).1 e ∧ Mod P w w' := by
  obtain ⟨F, ho, hgo⟩ := h.go_d
  exact (owrite_any ho hb hk n ao m c b hr hy).mono fun x w' ⟨hx, h1, h2⟩ => ⟨hx, hgo w' _ h1 h2⟩
theorem pr_write {k : Nat} (h : PR P w g r d e) (hb : Bd e k) (hk : k ≤ 4096) (n : Int) (b : List Int) (hy : ∀ x ∈ b, 0 ≤ x ∧ x ≤ 255) :
    Calls Try.prog 26 #[.pointer (some ⟨r, 0, none⟩), .int .i64 n, .string (str b)] w fun x w' => x = .returned (.int .i64 (Dk.WR e n b).2) ∧ PR P w' g r d (Dk.WR e n b).1 ∧ Mod P w w' := by
  obtain ⟨F, ho, hgo⟩ := h.go_r
  exact (xwrite_any ho hb hk n b hy).mono fun x w' ⟨hx, h1, h2⟩ => ⟨hx, hgo w' _ h1 h2⟩
theorem pd_flush {k : Nat} (h : PR P w g r d e) (hb : Bd d k) (hk : k ≤ 4096) :
    Calls Try.prog 18 #[.pointer (some ⟨g, 0, none⟩)] w fun x w' => x = .returned (.int .i64 (Dk.FL d).2) ∧ PR P w' g r (Dk.FL d).1 e ∧ Mod P w w' := by
  obtain ⟨F, ho, hgo⟩ := h.go_d
  exact (oflush_any ho hb hk).mono fun x w' ⟨hx, h1, h2⟩ => ⟨hx, hgo w' _ (h1.mono fun _ _ q => .inl q) h2⟩
theorem pr_flush {k : Nat} (h : PR P w g r d e) (hb : Bd e k) (hk : k ≤ 4096) :
    Calls Try.prog 27 #[.pointer (some ⟨r, 0, none⟩)] w fun x w' => x = .returned (.int .i64 (Dk.FL e).2) ∧ PR P w' g r d (Dk.FL e).1 ∧ Mod P w w' := by
  obtain ⟨F, ho, hgo⟩ := h.go_r
  exact (xflush_any ho hb hk).mono fun x w' ⟨hx, h1, h2⟩ => ⟨hx, hgo w' _ (h1.mono fun _ _ q => .inl q) h2⟩
theorem pd_stop (h : PR P w g r d e) (n : Int) :
    Calls Try.prog 19 #[.pointer (some ⟨g, 0, none⟩), .int .i64 n] w fun x w' => x = .returned (.int .i64 (Dk.ST d n).2) ∧ PR P w' g r (Dk.ST d n).1 e ∧ Mod P w w' := by
  obtain ⟨F, ho, hgo⟩ := h.go_d
  exact (ostop_any ho n).mono fun x w' ⟨hx, h1, h2⟩ => ⟨hx, hgo w' _ (h1.mono fun _ _ q => .inl q) h2⟩
theorem pr_stop (h : PR P w g r d e) (n : Int) :
    Calls Try.prog 28 #[.pointer (some ⟨r, 0, none⟩), .int .i64 n] w fun x w' => x = .returned (.int .i64 (Dk.ST e n).2) ∧ PR P w' g r d (Dk.ST e n).1 ∧ Mod P w w' := by
  obtain ⟨F, ho, hgo⟩ := h.go_r
  exact (xstop_any ho n).mono fun x w' ⟨hx, h1, h2⟩ => ⟨hx, hgo w' _ (h1.mono fun _ _ q => .inl q) h2⟩
theorem pd_spoil (h : PR P w g r d e) (n a b : Int) (hb : 0 ≤ b ∧ b ≤ 255) :
    Calls Try.prog 20 #[.pointer (some ⟨g, 0, none⟩), .int .i64 n, .int .i64 a, .int .u8 b] w fun x w' => x = .returned (.int .i64 (Dk.SP d n a b).2) ∧ PR P w' g r (Dk.SP d n a b).1 e ∧ Mod P w w' := by
  obtain ⟨F, ho, hgo⟩ := h.go_d
  exact (ospoil_any ho n a b hb).mono fun x w' ⟨hx, h1, h2⟩ => ⟨hx, hgo w' _ (h1.mono fun _ _ q => .inl q) h2⟩
theorem pr_spoil (h : PR P w g r d e) (n a b : Int) (hb : 0 ≤ b ∧ b ≤ 255) :
    Calls Try.prog 29 #[.pointer (some ⟨r, 0, none⟩), .int .i64 n, .int .i64 a, .int .u8 b] w fun x w' => x = .returned (.int .i64 (Dk.SP e n a b).2) ∧ PR P w' g r d (Dk.SP e n a b).1 ∧ Mod P w w' := by
  obtain ⟨F, ho, hgo⟩ := h.go_r
  exact (xspoil_any ho n a b hb).mono fun x w' ⟨hx, h1, h2⟩ => ⟨hx, hgo w' _ (h1.mono fun _ _ q => .inl q) h2⟩
end
end Go.Proofs.Ythhfgcpflclflaa
