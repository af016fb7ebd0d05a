/- follower; the closure that grows a sequence. -/
import Derived.Test.YthohbiklnknofaaPg
import Derived.Test.YthohbiklnknofaaCh
namespace Go.Proofs.Ythohbiklnknofaa
open Go.RowKit Go.Maps
set_option linter.unusedVariables false
set_option maxHeartbeats 1000000
set_option maxRecDepth 100000
section
variable {w : World} {p : Nat} {b : Int} {lv mt : List Int} {rs : List (List Nat)} {bl bm n : Nat} {ao : Option Addr} {N cap mp : Nat}
theorem PG.mtwf (h : PG w p b lv mt rs bl bm n ao N cap mp) (hm : ∀ i, i < n → -1 ≤ mt.getD i 0 ∧ mt.getD i 0 ≤ (n : Int)) {k : Nat} (hk : k < N) : (Lit.int .i64 (mt.getD (Rn.lst rs k) 0)).wf = true := by
  obtain ⟨g, gj, cj, m, rfl, c1, e1, hml, hrow, c2, c3, l1, l2⟩ := h.run hk
  have := hm _ l2
  have := h.hn
  exact WalkArith.wf_i64 (by omega)
theorem follower_any (h : PG w p b lv mt rs bl bm n ao N cap mp) (hmr : ∀ i, i < n → -1 ≤ mt.getD i 0 ∧ mt.getD i 0 ≤ (n : Int)) {k : Nat} (hk : k < N) :
    Calls Try.prog 58 #[.pointer (some ⟨p, 0, none⟩), .int .i64 (k : Int)] w fun e w' => e = .returned (.int .i64 (Rn.oi (Rn.fo mt rs k))) ∧ ∃ q, w' = w.drewN q := by
  have HE := hide (ends_any h hk)
  have hl := h.ll.len
  unfold Rn.fo
  rw [hl]
  have HG := hide h
  cases hen : Rn.en mt rs k with
  | false =>
    rw [hen] at HE
    rw [if_neg (by decide)]
    clear h hen
    go_enter Try.func58, Try.ntmps58
    go_wp2_with (go_at_call 59; refine HE.out.mono ?_; rintro e w' ⟨rfl, q, rfl⟩)
    go_ret
    exact ⟨rfl, _, rfl⟩
  | true =>
    rw [hen] at HE
    rw [if_pos rfl]
    obtain ⟨fo, hfo⟩ : ∃ fo, Rn.fi rs N (mt.getD (Rn.lst rs k) 0) = fo := ⟨_, rfl⟩
    rw [hfo]
    have HF := hide hfo
    clear h hen hfo
    go_enter Try.func58, Try.ntmps58
    go_wp2_with fail
    refine HE.out.mono ?_
    rintro e W ⟨rfl, q, hW⟩
    have h : PG W p b lv mt rs bl bm n ao N cap mp := by rw [hW]; exact HG.out.drewN q
    have HL := hide (fun q => plast_any (h.drewN q) hk)
    have hwf := h.mtwf hmr hk
    have HK := hide (fun q => (show (Instr.lookup 44 (.map (some mp)) (.int .i64 (mt.getD (Rn.lst rs k) 0)) true).run Try.prog (W.drewN q) = .ok (.tuple #[.int .i64 (((Rn.fi rs N (mt.getD (Rn.lst rs k) 0)).getD 0 : Nat) : Int), .bool (Rn.fi rs N (mt.getD (Rn.lst rs k) 0)).isSome]) (W.drewN q) from by
      obtain ⟨D, h1, h2⟩ := (h.drewN q).mo
      exact h2.look h1 _ hwf))
    obtain ⟨g, gj, cj, m, rfl, c1, e1, hm, hrow, c2, c3, l1, l2⟩ := h.run hk
    have d0 := h.c2
    have d1 := row_at h.rm l2
    have d4 := h.c4
    have hnn := h.hn
    have hll : ((Rn.lst rs k : Nat) : Int) < (n : Int) := by omega
    have hf0 := HF.out
    generalize mt.getD (Rn.lst rs k) 0 = x at *
    generalize Rn.lst rs k = l at *
    have HW := hide hW
    clear HF
    cases fo with
    | none =>
      have hkq : ∀ q, (Instr.lookup 44 (.map (some mp)) (.int .i64 x) true).run Try.prog (W.drewN q) = .ok (.tuple #[.int .i64 0, .bool false]) (W.drewN q) := fun q => by have := HK.out q; rw [hf0] at this; exact this
      clear h hrow HK hf0 hW HG HE c1 c2 c3
      go_wp2_with fail
      go_quiet (first | (go_at_call 64; exact Calls.quiet_of (HL.out _)))
      go_wp2
      go_ret
      exact ⟨rfl, _, by rw [HW.out, World.drewN_drewN]⟩
    | some j =>
      have hkq : ∀ q, (Instr.lookup 44 (.map (some mp)) (.int .i64 x) true).run Try.prog (W.drewN q) = .ok (.tuple #[.int .i64 (j : Int), .bool true]) (W.drewN q) := fun q => by have := HK.out q; rw [hf0] at this; exact this
      clear h hrow HK hf0 hW HG HE c1 c2 c3
      go_wp2_with fail
      go_quiet (first | (go_at_call 64; exact Calls.quiet_of (HL.out _)))
      go_wp2
      go_ret
      exact ⟨rfl, _, by rw [HW.out, World.drewN_drewN]⟩
end
end Go.Proofs.Ythohbiklnknofaa
