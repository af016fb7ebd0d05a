/- ExplicitResolves: explicit levels and types are as the document has it. -/
import Derived.Test.YthoganddhoklpaaRg
namespace Go.Proofs.Ythoganddhoklpaa
open Go.RowKit
set_option linter.unusedVariables false
set_option maxHeartbeats 1000000
set_option maxRecDepth 100000
theorem ExplicitResolves_walk (w : World) (a0 : Option Addr) (n0 cap0 : Nat) (c : List Int) (h0 : Row .i64 w a0 n0 cap0 c) (hf0 : ∀ x ∈ c, (Lit.int .i64 x).wf = true) (hs0 : n0 * 8 ≤ 140737488351232) (b : Int) (hwb : (Lit.int .i64 b).wf = true) :
    Calls Try.prog 3 #[.slice a0 n0 cap0, .int .i64 b] w fun e w' => e = .returned (.bool true) ∧ Below w.heap.size w w' := by
  by_cases hbig : n0 ≤ 300
  · have e0 : ¬ ((300 : Int) < (n0 : Int)) := by omega
    obtain ⟨ii, hii, hy0, hy1, hy2⟩ := info_parts infoInt
    have HII : Hid (Try.prog.info? 3 = some ii) := hii
    have HY0 := hide hy0
    have HY1 := hide hy1
    have HY2 := hide hy2
    have H0 := hide h0
    have hka : KO w (w.alloc (.cells #[] 3)) := KO.alloc (KO.refl _) _
    have HKA := hide hka
    obtain ⟨R, hR⟩ : ∃ R : Int, (R = 2 ∧ ¬ b = 0 ∧ ¬ b = 1) ∨ (R = 50 ∧ (b = 0 ∨ b = 1) ∧ ¬ Ex.Formed c) ∨ (R = 0 ∧ (b = 0 ∨ b = 1) ∧ Ex.Formed c) := by
      by_cases hb : b = 0 ∨ b = 1
      · by_cases hF : Ex.Formed c
        · exact ⟨0, .inr (.inr ⟨rfl, hb, hF⟩)⟩
        · exact ⟨50, .inr (.inl ⟨rfl, hb, hF⟩)⟩
      · exact ⟨2, .inl ⟨rfl, by omega, by omega⟩⟩
    have HRS : Hid (∀ (w' : World) (ao : Option Addr) (cp : Nat), Row .i64 w' ao n0 cp c → Calls Try.prog 10 #[.slice ao n0 cp, .int .i64 b] w' fun e w2 => ∃ (al : Option Addr) (nl cl : Nat) (at2 : Option Addr) (ct : Nat) (L T : List Int), e = .returned (.tuple #[.slice al nl cl, .slice at2 nl ct, .int .i64 R]) ∧ Row .i64 w2 al nl cl L ∧ Row .i64 w2 at2 nl ct T ∧ Below w'.heap.size w' w2 ∧ ((R = 0 ∧ nl = n0 ∧ L = Ex.LV b c ∧ T = Ex.TY b c) ∨ (¬ R = 0 ∧ nl = 0 ∧ L = [] ∧ T = []))) := by
      intro w' ao cp hr
      rcases hR with ⟨rfl, hb⟩ | ⟨rfl, hb, hF⟩ | ⟨rfl, hb, hF⟩
      · refine (resolve_arg ao n0 cp b w' hb).mono ?_
        rintro e w2 ⟨rfl, rfl⟩
        exact ⟨none, 0, 0, none, 0, [], [], rfl, row_nil _ _, row_nil _ _, Below.refl _ _, .inr ⟨by decide, rfl, rfl, rfl⟩⟩
      · refine (resolve_form ao n0 cp c b w' hr hs0 hb hF).mono ?_
        rintro e w2 ⟨rfl, rfl⟩
        exact ⟨none, 0, 0, none, 0, [], [], rfl, row_nil _ _, row_nil _ _, Below.refl _ _, .inr ⟨by decide, rfl, rfl, rfl⟩⟩
      · refine (resolve_ok ao n0 cp c b w' hr hs0 hb hF).mono ?_
        rintro e w2 ⟨bl, bt, rfl, r1, r2, hb2⟩
        exact ⟨_, n0, n0, _, n0, _, _, rfl, r1, r2, hb2, .inl ⟨rfl, rfl, rfl, rfl⟩⟩
    have HRR : Hid (∀ (w' : World) (ao : Option Addr) (cp : Nat), Row .i64 w' ao n0 cp c → Calls Try.prog 11 #[.slice ao n0 cp, .int .i64 b] w' fun e w2 => ∃ (al : Option Addr) (nl cl : Nat) (at2 : Option Addr) (ct : Nat) (L T : List Int), e = .returned (.tuple #[.slice al nl cl, .slice at2 nl ct, .int .i64 R]) ∧ Row .i64 w2 al nl cl L ∧ Row .i64 w2 at2 nl ct T ∧ Below w'.heap.size w' w2 ∧ ((R = 0 ∧ nl = n0 ∧ L = Ex.LV b c ∧ T = Ex.TY b c) ∨ (¬ R = 0 ∧ nl = 0 ∧ L = [] ∧ T = []))) := by
      intro w' ao cp hr
      rcases hR with ⟨rfl, hb⟩ | ⟨rfl, hb, hF⟩ | ⟨rfl, hb, hF⟩
      · refine (rresolve_arg ao n0 cp b w' hb).mono ?_
        rintro e w2 ⟨rfl, rfl⟩
        exact ⟨none, 0, 0, none, 0, [], [], rfl, row_nil _ _, row_nil _ _, Below.refl _ _, .inr ⟨by decide, rfl, rfl, rfl⟩⟩
      · refine (rresolve_form ao n0 cp c b w' hr hbig hb hF).mono ?_
        rintro e w2 ⟨rfl, rfl⟩
        exact ⟨none, 0, 0, none, 0, [], [], rfl, row_nil _ _, row_nil _ _, Below.refl _ _, .inr ⟨by decide, rfl, rfl, rfl⟩⟩
      · refine (rresolve_ok ao n0 cp c b w' hr hbig hb hF).mono ?_
        rintro e w2 ⟨al, cl, at2, ct, rfl, r1, r2, hb2⟩
        exact ⟨al, n0, cl, at2, ct, _, _, rfl, r1, r2, hb2, .inl ⟨rfl, rfl, rfl, rfl⟩⟩
    have hRR : (R == R) = true := by simp
    clear h0 hf0 hs0 hii hy0 hy1 hy2 hka hR hwb
    go_enter Try.func3, Try.ntmps3
    go_wp2_with (at_builtin; refine wpList_append_row _ rfl (.tmp 16) (.tmp 17) 22 rfl w.heap.size 3 ii (.int .i64 0) 8 Try.underlying22 HII.out HY0.out HY1.out HY2.out rfl _ 0 [] rfl (owns_empty w 3 w.heap.size rfl) .i64 a0 n0 cap0 c rfl (H0.out.below HKA.out) (by omega) (by omega) (by simp) ?_; intro v2 w2 hown2 hb2)
    rw [List.nil_append, Nat.zero_add] at hown2
    obtain ⟨a2, c2, rfl, hr2⟩ := row_of_owns hown2
    have k2 : KO w w2 := Below.trans HKA.out hb2
    have HR2 := hide hr2
    clear hown2 hb2 hr2
    have HM := hide (HRS.out w2 a2 c2 HR2.out)
    clear HRS
    go_wp2_with fail
    refine HM.out.mono ?_
    rintro e w3 ⟨al, nl, cl, at2, ct, L, T, rfl, rl, rt, hb3, hcase⟩
    have k3 : KO w2 w3 := hb3
    have HN := hide (HRR.out w3 a0 cap0 (H0.out.below (KO.on k2 k3)))
    have HC := hide hcase
    have HRL := hide rl
    have HRT := hide rt
    clear rl rt hb3 HM HRR hcase
    go_wp2_with fail
    refine HN.out.mono ?_
    rintro e w4 ⟨al', nl', cl', at', ct', L', T', rfl, rl', rt', hb4, hcase'⟩
    have hsame : nl' = nl ∧ L' = L ∧ T' = T := by
      rcases HC.out with ⟨x1, x2, x3, x4⟩ | ⟨x1, x2, x3, x4⟩ <;> rcases hcase' with ⟨y1, y2, y3, y4⟩ | ⟨y1, y2, y3, y4⟩
      · exact ⟨by omega, by rw [x3, y3], by rw [x4, y4]⟩
      · exact absurd x1 y1
      · exact absurd y1 x1
      · exact ⟨by omega, by rw [x3, y3], by rw [x4, y4]⟩
    obtain ⟨rfl, rfl, rfl⟩ := hsame
    have k4 : KO w2 w4 := KO.on k3 hb4
    have HI := hide (ints_yes al al' _ cl cl' _ w4 (HRL.out.below hb4) rl')
    have HI2 := hide (fun (w' : World) (hb : Below w4.heap.size w4 w') => ints_yes at2 at' _ ct ct' _ w' ((HRT.out.below hb4).below hb) (rt'.below hb))
    clear rl' rt' hb4 HN HRL HRT hcase' HC
    go_wp2_with fail
    refine HI.out.mono ?_
    rintro e w5 ⟨rfl, hd5⟩
    have hb5 := below_of_drewN hd5
    have k5 : KO w2 w5 := KO.on k4 hb5
    have HI3 := hide (HI2.out w5 hb5)
    clear hd5 hb5 HI HI2
    go_wp2_with fail
    refine HI3.out.mono ?_
    rintro e w6 ⟨rfl, hd6⟩
    have k6 : KO w2 w6 := KO.on k5 (below_of_drewN hd6)
    have HJ := hide (ints_yes a2 a0 n0 c2 cap0 c w6 (HR2.out.below k6) (H0.out.below (KO.on k2 k6)))
    clear hd6 HI3
    go_wp2_with fail
    refine HJ.out.mono ?_
    rintro e w9 ⟨rfl, hd9⟩
    have k9 : KO w2 w9 := KO.on k6 (below_of_drewN hd9)
    have HW := hide (works7_any w9)
    clear hd9 HJ
    go_wp2_with fail
    refine HW.out.mono ?_
    rintro e w10 ⟨rfl, hb10⟩
    have k10 : KO w w10 := KO.on k2 (KO.on k9 hb10)
    clear hb10 HW
    go_wp2_with fail
    go_ret
    exact ⟨rfl, k10⟩
  · have e0 : (300 : Int) < (n0 : Int) := by omega
    have HW := hide (works7_any w)
    clear h0 hf0 hs0 hbig
    go_enter Try.func3, Try.ntmps3
    go_wp2_with (go_at_call 9; refine HW.out.mono ?_; rintro e w1 ⟨rfl, hb1⟩)
    go_ret
    exact ⟨rfl, hb1⟩
end Go.Proofs.Ythoganddhoklpaa
