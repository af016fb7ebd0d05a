/- The walk of the law that two texts joined are a text. -/
import Derived.Test.YtkcalmighgdojaaWorks
import Derived.Test.YtkcalmighgdojaaCopy
namespace Go.Proofs.Ytkcalmighgdojaa
open Go.RowKit
set_option linter.unusedVariables false
theorem encode_some (ao : Option Addr) (n cap : Nat) (l : List Int) (w : World) (h : Row .i32 w ao n cap l) (hsz : n * 4 ≤ 140737488351232) :
    Calls Try.prog 9 #[.slice ao n cap] w fun e w' => ∃ (a2 : Option Addr) (n2 c2 : Nat) (p q : Int), e = .returned (.tuple #[.slice a2 n2 c2, .int .i64 p, .int .i64 q]) ∧ Below w.heap.size w w' := by
  rcases Utf.bad_or l with hok | ⟨j, hj, hbad, hfirst⟩
  · refine (encode_ok _ _ _ _ _ h hsz hok).mono ?_
    rintro e w2 ⟨v2, rfl, ho2, hb2⟩
    obtain ⟨a2, c2, rfl, hr2⟩ := row_of_owns ho2
    exact ⟨_, _, _, _, _, rfl, hb2⟩
  · refine (encode_bad _ _ _ _ _ h hsz j (by have := h.len; omega) hbad hfirst).mono ?_
    rintro e w2 ⟨rfl, rfl⟩
    exact ⟨_, _, _, _, _, rfl, Below.refl _ _⟩
theorem getD_left (a b : List Int) (i : Nat) (h : i < a.length) : (a ++ b).getD i 0 = a.getD i 0 := by
  simp [List.getD, List.getElem?_append_left h]
theorem getD_right (a b : List Int) (i : Nat) : (a ++ b).getD (a.length + i) 0 = b.getD i 0 := by
  simp [List.getD, List.getElem?_append_right]
theorem str_append (a b : List Int) : str (a ++ b) = str a ++ str b := by
  apply WideShapes.bytes_inj
  simp [str]
set_option maxHeartbeats 4000000 in
theorem UtfJoins_walk (w : World) (a0 : Option Addr) (n0 cap0 : Nat) (l : List Int) (h0 : Row .i32 w a0 n0 cap0 l) (hf0 : ∀ x ∈ l, (Lit.int .i32 x).wf = true) (hs0 : n0 ≤ 1048576)
    (a1 : Option Addr) (n1 cap1 : Nat) (k : List Int) (h1 : Row .i32 w a1 n1 cap1 k) (hf1 : ∀ x ∈ k, (Lit.int .i32 x).wf = true) (hs1 : n1 ≤ 1048576) :
    Calls Try.prog 8 #[.slice a0 n0 cap0, .slice a1 n1 cap1] w fun e w' => e = .returned (.bool true) ∧ Below w.heap.size w w' := by
  have H0 := hide h0
  have H1 := hide h1
  have L0 := hide h0.len
  have L1 := hide h1.len
  obtain ⟨i21, hi, hz0, hz1, hz2⟩ := info_parts Try.info21
  have HI : Hid (Try.prog.info? 21 = some i21) := hi
  have HZ0 := hide hz0
  have HZ1 := hide hz1
  have HZ2 := hide hz2
  clear h0 h1 hf0 hf1 hi hz0 hz1 hz2
  go_enter Try.func8, Try.ntmps8
  go_wp2_with fail
  refine (works_any _).mono ?_
  rintro e w1 ⟨rfl, hb1⟩
  have HB1 := hide hb1
  clear hb1
  go_wp2_with fail
  rcases Utf.bad_or l with hok | ⟨j, hj, hbad, hfirst⟩
  · have hel := Utf.enc_le l
    have hbe : Bytes (Utf.enc l) := Utf.enc_bytes hok
    refine (encode_ok _ _ _ _ _ (H0.out.below HB1.out) (by omega) hok).mono ?_
    rintro e w2 ⟨v2, rfl, ho2, hb2⟩
    obtain ⟨a2, c2, rfl, hr2⟩ := row_of_owns ho2
    have HR2 := hide hr2
    have HB2 := hide (HB1.out.trans (hb2.mono HB1.out.size))
    clear ho2 hb2 hr2
    go_wp2_with fail
    rcases Utf.bad_or k with hok1 | ⟨j, hj, hbad, hfirst⟩
    · have hel1 := Utf.enc_le k
      have hbe1 : Bytes (Utf.enc k) := Utf.enc_bytes hok1
      refine (encode_ok _ _ _ _ _ (H1.out.below HB2.out) (by omega) hok1).mono ?_
      rintro e w3 ⟨v3, rfl, ho3, hb3⟩
      obtain ⟨a3, c3, rfl, hr3⟩ := row_of_owns ho3
      have HR3 := hide hr3
      have HR23 := hide (HR2.out.below hb3)
      have HB3 := hide (HB2.out.trans (hb3.mono HB2.out.size))
      clear ho3 hb3 hr3
      have HR0 := hide ((H0.out.below HB3.out).below ((Below.refl w3.heap.size w3).alloc (Nat.le_refl _) (.cells #[] 21)))
      go_wp2_with (at_builtin; refine wpList_append_row _ (by rfl) (.tmp 31) (.tmp 32) 26 rfl w3.heap.size 21 i21 (.int .i32 0) 4 Try.underlying26 HI.out HZ0.out HZ1.out HZ2.out rfl _ 0 [] rfl (owns_empty w3 21 _ rfl) .i32 a0 n0 cap0 l rfl HR0.out ?c1 (by omega) ?c2 ?_)
      case c1 => omega
      case c2 => simp
      intro v5 w5 ho5 hb5
      have HO5 := hide ho5
      have hb5' := ((Below.refl w3.heap.size w3).alloc (Nat.le_refl _) (.cells #[] 21)).trans hb5
      have HR5 := hide ((H1.out.below HB3.out).below hb5')
      have HB5 := hide hb5'
      clear ho5 hb5 hb5' HR0
      go_wp2_with (at_builtin; refine wpList_append_row _ (by rfl) (.tmp 33) (.tmp 34) 26 rfl w3.heap.size 21 i21 (.int .i32 0) 4 Try.underlying26 HI.out HZ0.out HZ1.out HZ2.out rfl _ n0 _ rfl HO5.out .i32 a1 n1 cap1 k rfl HR5.out ?d1 (by omega) ?d2 ?_)
      case d1 => omega
      case d2 => exact HB5.out.size
      intro v6 w6 ho6 hb6
      rw [← List.map_append] at ho6
      obtain ⟨a6, c6, rfl, hr6⟩ := row_of_owns ho6
      have HR6 := hide hr6
      have HB6 := hide (HB5.out.trans hb6)
      have HX6 := hide (HB3.out.trans (HB6.out.mono HB3.out.size))
      clear ho6 hb6 hr6 HO5 HR5
      go_wp2_with fail
      have hokk : ∀ x ∈ l ++ k, Utf.size x ≠ 0 := by
        intro x hx
        rcases List.mem_append.1 hx with hx | hx
        · exact hok x hx
        · exact hok1 x hx
      have hen : Utf.enc (l ++ k) = Utf.enc l ++ Utf.enc k := Utf.enc_append l k
      have hlen : (Utf.enc (l ++ k)).length = (Utf.enc l).length + (Utf.enc k).length := by rw [hen, List.length_append]
      have hde := Utf.dec_enc (l ++ k) hokk
      have hbek : Bytes (Utf.enc (l ++ k)) := Utf.enc_bytes hokk
      refine (encode_ok _ _ _ _ _ HR6.out (by omega) hokk).mono ?_
      rintro e w7 ⟨v7, rfl, ho7, hb7⟩
      obtain ⟨a7, c7, rfl, hr7⟩ := row_of_owns ho7
      have HX7 := hide (HX6.out.trans (hb7.mono HX6.out.size))
      have HC := hide (count_yes _ _ _ _ _ hr7 hbek (by rw [hde]))
      have HK1 := hide (cut_any _ _ _ ((Utf.enc l).length : Int) _ _ hr7 hbek)
      have HK2 := hide (cut_any _ _ _ ((Utf.enc (l ++ k)).length : Int) _ _ hr7 hbek)
      have e1 : (Utf.dec ((Utf.enc (l ++ k)).take ((Utf.enc l).length : Int).toNat)).2 = (Utf.enc l).length := by
        rw [Int.toNat_natCast, hen, List.take_left, Utf.dec_enc l hok]
      have e2 : (Utf.dec ((Utf.enc (l ++ k)).take ((Utf.enc (l ++ k)).length : Int).toNat)).2 = (Utf.enc (l ++ k)).length := by
        rw [Int.toNat_natCast, List.take_length, hde]
      rw [e1] at HK1
      rw [e2] at HK2
      rw [hde] at HC
      have hl2 : ((l ++ k).length) = n0 + n1 := by rw [List.length_append, L0.out, L1.out]
      simp only [hl2] at HC
      have hq1 := run_str _ _ _ _ _ hr7 hbek
      have hq2 := run_str _ _ _ _ _ ((HR23.out.below HB6.out).below hb7) hbe
      have hq3 := run_str _ _ _ _ _ ((HR3.out.below HB6.out).below hb7) hbe1
      rw [hen, str_append] at hq1
      have z1 : (str (Utf.enc l)).size = (Utf.enc l).length := by simp [str, ByteArray.size]
      have z2 : (str (Utf.enc k)).size = (Utf.enc k).length := by simp [str, ByteArray.size]
      rw [hlen] at HK1 HK2 HC
      rw [List.length_append] at hq1
      rw [hlen]
      have bz0 : (Utf.enc l).length ≤ 4194304 := by have := L0.out; omega
      have bz1 : (Utf.enc k).length ≤ 4194304 := by have := L1.out; omega
      have bs0 : (str (Utf.enc l)).size ≤ 4194304 := by omega
      have bs1 : (str (Utf.enc k)).size ≤ 4194304 := by omega
      clear z1 z2 hel hel1
      clear ho7 hb7 hr7 hde e1 e2 hl2 hlen hen hbek hbe hbe1 hok hok1 hokk
      generalize (Utf.enc l).length = m0 at *
      generalize (Utf.enc k).length = m1 at *
      generalize str (Utf.enc l) = s0 at *
      generalize str (Utf.enc k) = s1 at *
      rw [show ((m0 + m1 : Nat) : Int) = (m0 : Int) + (m1 : Int) from by omega] at HK2
      go_wp2_with fail
      refine HC.out.mono ?_
      rintro e w8 ⟨rfl, rfl⟩
      go_wp2_with fail
      refine HK1.out.mono ?_
      rintro e w9 ⟨rfl, rfl⟩
      go_wp2_with fail
      refine HK2.out.mono ?_
      rintro e w10 ⟨rfl, rfl⟩
      go_wp2
      go_ret
      exact ⟨rfl, HX7.out⟩
    · have hjn : j < n1 := by have := L1.out; omega
      refine (encode_bad _ _ _ _ _ (H1.out.below HB2.out) (by omega) j hjn hbad hfirst).mono ?_
      rintro e w3 ⟨rfl, hw3⟩
      subst hw3
      have HB3 := HB2
      have HR0 := hide ((H0.out.below HB3.out).below ((Below.refl w2.heap.size w2).alloc (Nat.le_refl _) (.cells #[] 21)))
      go_wp2_with (at_builtin; refine wpList_append_row _ (by rfl) (.tmp 31) (.tmp 32) 26 rfl w2.heap.size 21 i21 (.int .i32 0) 4 Try.underlying26 HI.out HZ0.out HZ1.out HZ2.out rfl _ 0 [] rfl (owns_empty w2 21 _ rfl) .i32 a0 n0 cap0 l rfl HR0.out ?c1 (by omega) ?c2 ?_)
      case c1 => omega
      case c2 => simp
      intro v5 w5 ho5 hb5
      have HO5 := hide ho5
      have hb5' := ((Below.refl w2.heap.size w2).alloc (Nat.le_refl _) (.cells #[] 21)).trans hb5
      have HR5 := hide ((H1.out.below HB3.out).below hb5')
      have HB5 := hide hb5'
      clear ho5 hb5 hb5' HR0
      go_wp2_with (at_builtin; refine wpList_append_row _ (by rfl) (.tmp 33) (.tmp 34) 26 rfl w2.heap.size 21 i21 (.int .i32 0) 4 Try.underlying26 HI.out HZ0.out HZ1.out HZ2.out rfl _ n0 _ rfl HO5.out .i32 a1 n1 cap1 k rfl HR5.out ?d1 (by omega) ?d2 ?_)
      case d1 => omega
      case d2 => exact HB5.out.size
      intro v6 w6 ho6 hb6
      rw [← List.map_append] at ho6
      obtain ⟨a6, c6, rfl, hr6⟩ := row_of_owns ho6
      have HR6 := hide hr6
      have HB6 := hide (HB5.out.trans hb6)
      have HX6 := hide (HB3.out.trans (HB6.out.mono HB3.out.size))
      clear ho6 hb6 hr6 HO5 HR5
      go_wp2_with fail
      have hb2 : Utf.size ((l ++ k).getD (l.length + j) 0) = 0 := by rw [getD_right]; exact hbad
      have hf2 : ∀ i, i < l.length + j → Utf.size ((l ++ k).getD i 0) ≠ 0 := by
        intro i hi
        by_cases hil : i < l.length
        · rw [getD_left l k i hil]; exact Utf.scalar_at hok hil
        · have := hfirst (i - l.length) (by omega)
          rw [← getD_right l k (i - l.length), show l.length + (i - l.length) = i from by omega] at this
          exact this
      refine (encode_bad _ _ _ _ _ HR6.out (by omega) (l.length + j) (by have := L0.out; omega) hb2 hf2).mono ?_
      rintro e w7 ⟨rfl, rfl⟩
      have hl0 : (n0 : Int) ≤ ((l.length + j : Nat) : Int) := by have := L0.out; omega
      clear hbad hfirst hb2 hf2 hok
      generalize l.length + j = jj at *
      go_wp2
      go_ret
      exact ⟨rfl, HX6.out⟩
  · have hjn : j < n0 := by have := L0.out; omega
    refine (encode_bad _ _ _ _ _ (H0.out.below HB1.out) (by omega) j hjn hbad hfirst).mono ?_
    rintro e w2 ⟨rfl, rfl⟩
    go_wp2_with fail
    refine (encode_some _ _ _ _ _ (H1.out.below HB1.out) (by omega)).mono ?_
    rintro e w3 ⟨a2, n2, c2, p, q, rfl, hb3⟩
    have HB3 := hide (HB1.out.trans (hb3.mono HB1.out.size))
    clear hb3
    have HR0 := hide ((H0.out.below HB3.out).below ((Below.refl w3.heap.size w3).alloc (Nat.le_refl _) (.cells #[] 21)))
    go_wp2_with (at_builtin; refine wpList_append_row _ (by rfl) (.tmp 31) (.tmp 32) 26 rfl w3.heap.size 21 i21 (.int .i32 0) 4 Try.underlying26 HI.out HZ0.out HZ1.out HZ2.out rfl _ 0 [] rfl (owns_empty w3 21 _ rfl) .i32 a0 n0 cap0 l rfl HR0.out ?c1 (by omega) ?c2 ?_)
    case c1 => omega
    case c2 => simp
    intro v5 w5 ho5 hb5
    have HO5 := hide ho5
    have hb5' := ((Below.refl w3.heap.size w3).alloc (Nat.le_refl _) (.cells #[] 21)).trans hb5
    have HR5 := hide ((H1.out.below HB3.out).below hb5')
    have HB5 := hide hb5'
    clear ho5 hb5 hb5' HR0
    go_wp2_with (at_builtin; refine wpList_append_row _ (by rfl) (.tmp 33) (.tmp 34) 26 rfl w3.heap.size 21 i21 (.int .i32 0) 4 Try.underlying26 HI.out HZ0.out HZ1.out HZ2.out rfl _ n0 _ rfl HO5.out .i32 a1 n1 cap1 k rfl HR5.out ?d1 (by omega) ?d2 ?_)
    case d1 => omega
    case d2 => exact HB5.out.size
    intro v6 w6 ho6 hb6
    rw [← List.map_append] at ho6
    obtain ⟨a6, c6, rfl, hr6⟩ := row_of_owns ho6
    have HR6 := hide hr6
    have HB6 := hide (HB5.out.trans hb6)
    have HX6 := hide (HB3.out.trans (HB6.out.mono HB3.out.size))
    clear ho6 hb6 hr6 HO5 HR5
    go_wp2_with fail
    have hb2 : Utf.size ((l ++ k).getD j 0) = 0 := by rw [getD_left l k j hj]; exact hbad
    have hf2 : ∀ i, i < j → Utf.size ((l ++ k).getD i 0) ≠ 0 := fun i hi => by rw [getD_left l k i (by omega)]; exact hfirst i hi
    refine (encode_bad _ _ _ _ _ HR6.out (by omega) j (by omega) hb2 hf2).mono ?_
    rintro e w7 ⟨rfl, rfl⟩
    clear hbad hfirst hb2 hf2 hj
    go_wp2
    go_ret
    exact ⟨rfl, HX6.out⟩
end Go.Proofs.Ytkcalmighgdojaa
