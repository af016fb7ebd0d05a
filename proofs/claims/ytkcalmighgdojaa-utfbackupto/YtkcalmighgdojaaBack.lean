/- The walk of the law that texts go there and back. -/
import Derived.Test.YtkcalmighgdojaaWorks
import Derived.Test.YtkcalmighgdojaaCopy
namespace Go.Proofs.Ytkcalmighgdojaa
open Go.RowKit
set_option linter.unusedVariables false
set_option maxHeartbeats 4000000 in
theorem UtfBack_walk (w : World) (a0 : Option Addr) (n0 cap0 : Nat) (l : List Int) (h0 : Row .i32 w a0 n0 cap0 l) (hf0 : ∀ x ∈ l, (Lit.int .i32 x).wf = true) (hs0 : n0 ≤ 1048576)
    (a1 : Option Addr) (n1 cap1 : Nat) (b : List Int) (h1 : Row .u8 w a1 n1 cap1 b) (hf1 : ∀ x ∈ b, (Lit.int .u8 x).wf = true) (hs1 : n1 ≤ 1048576) :
    Calls Try.prog 7 #[.slice a0 n0 cap0, .slice a1 n1 cap1] w fun e w' => e = .returned (.bool true) ∧ Below w.heap.size w w' := by
  have hbs := Bytes.of_wf hf1
  have H0 := hide h0
  have H1 := hide h1
  have HBS := hide hbs
  clear h0 h1 hf0 hf1 hbs
  go_enter Try.func7, Try.ntmps7
  go_wp2_with fail
  refine (works_any _).mono ?_
  rintro e w1 ⟨rfl, hb1⟩
  have HB1 := hide hb1
  have s1 := hb1.size
  clear hb1
  go_wp2_with fail
  rcases Utf.bad_or l with hok | ⟨j, hj, hbad, hfirst⟩
  · have hel := Utf.enc_le l
    have hl0 := H0.out.len
    have hde := Utf.dec_enc l hok
    have hbe : Bytes (Utf.enc l) := Utf.enc_bytes hok
    refine (encode_ok _ _ _ _ _ (H0.out.below HB1.out) (by omega) hok).mono ?_
    rintro e w2 ⟨v2, rfl, ho2, hb2⟩
    obtain ⟨a2, c2, rfl, hr2⟩ := row_of_owns ho2
    have HB2 := hide hb2
    have HD := hide (decode_yes _ _ _ _ _ hr2 hbe (by rw [hde]) (by omega))
    rw [hde] at HD
    have s2 := hb2.size
    clear ho2 hb2 hr2 hde hbe hok
    generalize (Utf.enc l).length = m at *
    go_wp2_with fail
    refine HD.out.mono ?_
    rintro e w3 ⟨v3, rfl, ho3, hb3⟩
    obtain ⟨a3, c3, rfl, hr3⟩ := row_of_owns ho3
    have s3 := hb3.size
    have HS := hide (same_yes a0 a3 n0 cap0 c3 l w3 (((H0.out.below HB1.out).below HB2.out).below hb3) (by rw [← hl0]; exact hr3))
    have HB3 := hide hb3
    have HX0 := hide ((HB1.out.trans (HB2.out.mono (by omega))).trans (HB3.out.mono (by omega)))
    clear ho3 hb3 hr3 HD
    rw [hl0]
    go_wp2_with fail
    refine HS.out.mono ?_
    rintro e w4 ⟨rfl, q, rfl⟩
    have HX := hide (below_drewN HX0.out q)
    go_wp2_with fail
    by_cases hw : (Utf.dec b).2 = n1
    · have hed := Utf.enc_dec b.length b (Nat.le_refl _) HBS.out
      have hfull : Utf.enc (Utf.dec b).1 = b := by rw [hed.1, hw]; exact List.take_of_length_le (by have := H1.out.len; omega)
      have hdl := Utf.dec_le b.length b (Nat.le_refl _)
      have hl1 := H1.out.len
      refine (decode_yes _ _ _ _ _ (H1.out.below HX.out) HBS.out hw (by omega)).mono ?_
      rintro e w5 ⟨v5, rfl, ho5, hb5⟩
      obtain ⟨a5, c5, rfl, hr5⟩ := row_of_owns ho5
      have HR5 := hide hr5
      have HB5 := hide hb5
      have HE5 := hide (encode_ok _ _ _ _ _ hr5 (by omega) hed.2)
      rw [hfull, hl1] at HE5
      have s5 := hb5.size
      clear ho5 hb5 hr5 hed hfull hl1
      go_wp2_with fail
      refine HE5.out.mono ?_
      rintro e w6 ⟨v6, rfl, ho6, hb6⟩
      obtain ⟨a6, c6, rfl, hr6⟩ := row_of_owns ho6
      have hq1 := run_str _ _ _ _ _ hr6 HBS.out
      have hq2 := run_str _ _ _ _ _ (((H1.out.below HX.out).below HB5.out).below hb6) HBS.out
      have HB6 := hide hb6
      clear ho6 hb6 hr6 HE5
      go_wp2
      go_ret
      exact ⟨rfl, (HX.out.trans (HB5.out.mono HX.out.size)).trans (HB6.out.mono (Nat.le_trans HX.out.size s5))⟩
    · have hdl := Utf.dec_le b.length b (Nat.le_refl _)
      have hl1 := H1.out.len
      refine (decode_no _ _ _ _ _ (H1.out.below HX.out) HBS.out (by omega)).mono ?_
      rintro e w5 ⟨rfl, rfl⟩
      go_wp2
      go_ret
      exact ⟨rfl, HX.out⟩
  · have hjn : j < n0 := by have := H0.out.len; omega
    refine (encode_bad _ _ _ _ _ (H0.out.below HB1.out) (by omega) j hjn hbad hfirst).mono ?_
    rintro e w2 ⟨rfl, rfl⟩
    have HX := HB1
    clear hbad hfirst
    go_wp2_with fail
    by_cases hw : (Utf.dec b).2 = n1
    · have hed := Utf.enc_dec b.length b (Nat.le_refl _) HBS.out
      have hfull : Utf.enc (Utf.dec b).1 = b := by rw [hed.1, hw]; exact List.take_of_length_le (by have := H1.out.len; omega)
      have hdl := Utf.dec_le b.length b (Nat.le_refl _)
      have hl1 := H1.out.len
      refine (decode_yes _ _ _ _ _ (H1.out.below HX.out) HBS.out hw (by omega)).mono ?_
      rintro e w5 ⟨v5, rfl, ho5, hb5⟩
      obtain ⟨a5, c5, rfl, hr5⟩ := row_of_owns ho5
      have HR5 := hide hr5
      have HB5 := hide hb5
      have HE5 := hide (encode_ok _ _ _ _ _ hr5 (by omega) hed.2)
      rw [hfull, hl1] at HE5
      have s5 := hb5.size
      clear ho5 hb5 hr5 hed hfull hl1
      go_wp2_with fail
      refine HE5.out.mono ?_
      rintro e w6 ⟨v6, rfl, ho6, hb6⟩
      obtain ⟨a6, c6, rfl, hr6⟩ := row_of_owns ho6
      have hq1 := run_str _ _ _ _ _ hr6 HBS.out
      have hq2 := run_str _ _ _ _ _ (((H1.out.below HX.out).below HB5.out).below hb6) HBS.out
      have HB6 := hide hb6
      clear ho6 hb6 hr6 HE5
      go_wp2
      go_ret
      exact ⟨rfl, (HX.out.trans (HB5.out.mono HX.out.size)).trans (HB6.out.mono (Nat.le_trans HX.out.size s5))⟩
    · have hdl := Utf.dec_le b.length b (Nat.le_refl _)
      have hl1 := H1.out.len
      refine (decode_no _ _ _ _ _ (H1.out.below HX.out) HBS.out (by omega)).mono ?_
      rintro e w5 ⟨rfl, rfl⟩
      go_wp2
      go_ret
      exact ⟨rfl, HX.out⟩
end Go.Proofs.Ytkcalmighgdojaa
