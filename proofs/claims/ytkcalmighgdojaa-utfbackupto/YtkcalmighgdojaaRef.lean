/- The contracts of the document's form and Encode. -/
import Derived.Test.YtkcalmighgdojaaEnc
namespace Go.Proofs.Ytkcalmighgdojaa
open Go.RowKit
set_option linter.unusedVariables false
set_option maxHeartbeats 1000000 in
theorem rform_any (r : Int) (w : World) (hr : Utf.size r ≠ 0) :
    Calls Try.prog 22 #[.int .i32 r] w fun e w' => ∃ m, m = (Utf.form r).length ∧ 1 ≤ m ∧ m ≤ 4 ∧ e = .returned (.slice (some ⟨w.heap.size, 0, none⟩) m m) ∧ w' = w.alloc (.cells ((Utf.form r).map (Value.int .u8)).toArray 5) := by
  have hs := Utf.size_cases r
  by_cases h1 : r < 128
  · have hr0 : 0 ≤ r := by omega
    have hs1 : Utf.size r = 1 := by omega
    have HF : Hid (Utf.form r = [r]) := by simp [Hid, Utf.form, h1]
    clear hs hr
    go_enter Try.func22, Try.ntmps22
    go_wp2_with (go_at_call 13; refine (rsize_any _ _ (by omega) (by omega)).mono ?_; rintro e w' ⟨rfl, rfl⟩)
    go_ret
    rw [HF.out]
    exact ⟨_, rfl, by simp, by simp, rfl, rfl⟩
  by_cases h2 : r < 2048
  · have hr0 : 128 ≤ r := by omega
    have hs1 : Utf.size r = 2 := by omega
    have HF : Hid (Utf.form r = [192 + r / 64, 128 + r % 64]) := by simp [Hid, Utf.form, h1, h2]
    clear hs hr
    go_enter Try.func22, Try.ntmps22
    go_wp2_with (go_at_call 13; refine (rsize_any _ _ (by omega) (by omega)).mono ?_; rintro e w' ⟨rfl, rfl⟩)
    go_ret
    rw [HF.out]
    exact ⟨_, rfl, by simp, by simp, rfl, rfl⟩
  by_cases h3 : r < 65536
  · have hr0 : 2048 ≤ r := by omega
    have hs1 : Utf.size r = 3 := by omega
    have HF : Hid (Utf.form r = [224 + r / 4096, 128 + r / 64 % 64, 128 + r % 64]) := by simp [Hid, Utf.form, h1, h2, h3]
    clear hs hr
    go_enter Try.func22, Try.ntmps22
    go_wp2_with (go_at_call 13; refine (rsize_any _ _ (by omega) (by omega)).mono ?_; rintro e w' ⟨rfl, rfl⟩)
    go_ret
    rw [HF.out]
    exact ⟨_, rfl, by simp, by simp, rfl, rfl⟩
  · have hr0 : 65536 ≤ r := by omega
    have hr1 : r ≤ 1114111 := by omega
    have hs1 : Utf.size r = 4 := by omega
    have HF : Hid (Utf.form r = [240 + r / 262144, 128 + r / 4096 % 64, 128 + r / 64 % 64, 128 + r % 64]) := by simp [Hid, Utf.form, h1, h2, h3]
    clear hs hr
    go_enter Try.func22, Try.ntmps22
    go_wp2_with (go_at_call 13; refine (rsize_any _ _ (by omega) (by omega)).mono ?_; rintro e w' ⟨rfl, rfl⟩)
    go_ret
    rw [HF.out]
    exact ⟨_, rfl, by simp, by simp, rfl, rfl⟩
theorem rapp_close {base n m : Nat} {v v' : Value} {l : List Int} {q : Nat} {w w1 w2 : World} {x : Int} (hb : Below base w1 w) (hB : base ≤ w.heap.size) (hq : q < l.length) (hx : x = l.getD q 0) (hown : w.ownsRow base 5 1 v n ((Utf.enc (l.take q)).map (Value.int .u8)))
    (h1 : w2.ownsRow base 5 1 v' (n + m) ((Utf.enc (l.take q)).map (Value.int .u8) ++ (Utf.form x).map (Value.int .u8))) (hn : n = (Utf.enc (l.take q)).length) (hm : m = (Utf.form x).length)
    (hg : (w.alloc (.cells ((Utf.form x).map (Value.int .u8)).toArray 5)).grownBy w2 v.ownBlock) :
    w2.ownsRow base 5 1 v' (Utf.enc (l.take (q + 1))).length ((Utf.enc (l.take (q + 1))).map (Value.int .u8)) ∧ Below base w1 w2 := by
  subst hx hm hn
  rw [Utf.enc_snoc l q hq, List.map_append, List.length_append]
  exact ⟨h1, hb.trans (((Below.refl base w).alloc hB _).grown hg (by simp; omega) (fun k hk => (hown.lt k hk).1))⟩
set_option maxHeartbeats 2000000 in
theorem rencode_ok (ao : Option Addr) (n cap : Nat) (l : List Int) (w : World) (h : Row .i32 w ao n cap l) (hsz : n * 4 ≤ 140737488351232) (hok : ∀ x ∈ l, Utf.size x ≠ 0) :
    Calls Try.prog 10 #[.slice ao n cap] w fun e w' => ∃ v, e = .returned (.tuple #[v, .int .i64 0, .int .i64 0]) ∧ w'.ownsRow w.heap.size 5 1 v (Utf.enc l).length ((Utf.enc l).map (Value.int .u8)) ∧ Below w.heap.size w w' := by
  have hl := h.len
  have HR := hide h
  have HL := hide hl
  have HO := hide hok
  clear h hl hok
  obtain ⟨i5, hi, hz0, hz1, hz2⟩ := info_parts Try.info5
  have HI : Hid (Try.prog.info? 5 = some i5) := hi
  have HZ0 := hide hz0
  have HZ1 := hide hz1
  have HZ2 := hide hz2
  clear hi hz0 hz1 hz2
  go_enter Try.func10, Try.ntmps10
  go_wp2
  go_loopw [5, 6] (fun v i wr => ∃ q : Nat, q ≤ n ∧ i = .int .i64 q ∧ Hid (wr.ownsRow w.heap.size 5 1 v (Utf.enc (l.take q)).length ((Utf.enc (l.take q)).map (Value.int .u8))) ∧ Hid (Below w.heap.size w wr)) (fun _ i _ => n - (intOf i).toNat)
  case atStart => exact ⟨0, Nat.zero_le _, rfl, World.ownsRow_nil _ _ _ _, Below.refl _ _⟩
  case round =>
    obtain ⟨q, hq, rfl, hown, hbw⟩ := hrel
    by_cases hlt2 : q < n
    · obtain ⟨b, off, rfl, hbl, hc⟩ := HR.out.cells (by omega)
      have hck := (hbw.out.cell (by exact hbl)).trans (hc q (by have := HL.out; omega))
      have hsc := Utf.scalar_at HO.out (k := q) (by have := HL.out; omega)
      have hsb := Utf.size_cases (l.getD q 0)
      have hel := Utf.enc_le (l.take q)
      have hle : (l.take q).length ≤ q := List.length_take_le _ _
      have hfl := Utf.form_le (l.getD q 0)
      have hen : (Utf.enc (l.take q)).length ≤ 4 * q := by omega
      generalize hN : (Utf.enc (l.take q)).length = N at hown hen
      have HN := hide hN
      have hx0 : -2147483648 ≤ l.getD q 0 ∧ l.getD q 0 ≤ 2147483647 := by omega
      clear hc hel hle hN hsb
      generalize hxx : l.getD q 0 = x at hck hsc hfl hx0
      have HXX := hide hxx
      have hsc' : (Utf.size x == 0) = false := by simp [hsc]
      have HSC := hide hsc
      clear hxx hsc
      obtain ⟨hx0, hx1⟩ := hx0
      go_wp2_with (first | (go_at_call 13; refine (rsize_any _ _ (by omega) (by omega)).mono ?_; rintro e w' ⟨rfl, rfl⟩) | (go_at_call 22; refine (rform_any _ _ HSC.out).mono ?_; rintro e w' ⟨m, hm, hm1, hm4, rfl, rfl⟩; have HM := hide hm; clear hm) | (at_builtin; refine wpList_append_own _ rfl _ _ 22 rfl w.heap.size 5 i5 (.int .u8 0) 1 1 Try.underlying22 HI.out HZ0.out HZ1.out HZ2.out rfl (by decide) _ _ _ rfl (hown.out.alloc _) ⟨wr.heap.size, 0, none⟩ m m ((Utf.form x).map (Value.int .u8)) rfl ?c0 ?c1 ?c2 ?c3 ?c4 ?c5 ?_))
      case c0 => simp only [List.length_map, Nat.mul_one]; exact HM.out.symm
      case c1 => exact World.news_of_block (heap_alloc_new wr _)
      case c2 => exact ints_oneCell .u8 _
      case c3 => unfold maxLen; omega
      case c4 => omega
      case c5 => have := hbw.out.size; simp; omega
      intro v2 w2 hown2 hgrow2 _
      have HX := hide (rapp_close hbw.out hbw.out.size (by have := HL.out; omega) HXX.out.symm hown.out hown2 HN.out.symm HM.out hgrow2)
      clear hown2 hgrow2 hown
      go_wp2
      go_roundw
      case rel => exact ⟨q + 1, by omega, by go_num, HX.out.1, HX.out.2⟩
      case measure => simp [intOf]; omega
    · obtain rfl : q = n := by omega
      have ht : l.take q = l := List.take_of_length_le (by have := HL.out; omega)
      rw [ht] at hown
      go_wp2
      go_ret3
      exact ⟨_, rfl, hown.out, hbw.out⟩
set_option maxHeartbeats 1000000 in
theorem rencode_bad (ao : Option Addr) (n cap : Nat) (l : List Int) (w : World) (h : Row .i32 w ao n cap l) (hwf : ∀ x ∈ l, -2147483648 ≤ x ∧ x ≤ 2147483647) (hsz : n * 4 ≤ 140737488351232) (j : Nat) (hj : j < n) (hb : Utf.size (l.getD j 0) = 0) (hf : ∀ i, i < j → Utf.size (l.getD i 0) ≠ 0) :
    Calls Try.prog 10 #[.slice ao n cap] w fun e w' => e = .returned (.tuple #[.slice none 0 0, .int .i64 j, .int .i64 11]) ∧ Below w.heap.size w w' := by
  have hl := h.len
  have HR := hide h
  have HL := hide hl
  have HF := hide hf
  have HBD := hide hb
  have HWF := hide hwf
  clear h hl hf hb hwf
  obtain ⟨i5, hi, hz0, hz1, hz2⟩ := info_parts Try.info5
  have HI : Hid (Try.prog.info? 5 = some i5) := hi
  have HZ0 := hide hz0
  have HZ1 := hide hz1
  have HZ2 := hide hz2
  clear hi hz0 hz1 hz2
  go_enter Try.func10, Try.ntmps10
  go_wp2
  go_loopw [5, 6] (fun v i wr => ∃ q : Nat, q ≤ j ∧ i = .int .i64 q ∧ Hid (wr.ownsRow w.heap.size 5 1 v (Utf.enc (l.take q)).length ((Utf.enc (l.take q)).map (Value.int .u8))) ∧ Hid (Below w.heap.size w wr)) (fun _ i _ => n - (intOf i).toNat)
  case atStart => exact ⟨0, Nat.zero_le _, rfl, World.ownsRow_nil _ _ _ _, Below.refl _ _⟩
  case round =>
    obtain ⟨q, hq, rfl, hown, hbw⟩ := hrel
    obtain ⟨b, off, rfl, hbl, hc⟩ := HR.out.cells (by omega)
    have hck := (hbw.out.cell (by exact hbl)).trans (hc q (by have := HL.out; omega))
    have hx0 : -2147483648 ≤ l.getD q 0 ∧ l.getD q 0 ≤ 2147483647 := by
      have hk : q < l.length := by have := HL.out; omega
      have e : l.getD q 0 = l[q] := by simp [List.getD, List.getElem?_eq_getElem hk]
      rw [e]; exact HWF.out _ (List.getElem_mem _)
    clear hc
    obtain ⟨hx0, hx1⟩ := hx0
    by_cases hlt2 : q < j
    · have hsc := HF.out q hlt2
      have hel := Utf.enc_le (l.take q)
      have hle : (l.take q).length ≤ q := List.length_take_le _ _
      have hen : (Utf.enc (l.take q)).length ≤ 4 * q := by omega
      generalize hN : (Utf.enc (l.take q)).length = N at hown hen
      have HN := hide hN
      clear hel hle hN
      generalize hxx : l.getD q 0 = x at hck hsc hx0 hx1
      have HXX := hide hxx
      have hsc' : (Utf.size x == 0) = false := by simp [hsc]
      have HSC := hide hsc
      clear hxx hsc
      go_wp2_with (first | (go_at_call 13; refine (rsize_any _ _ (by omega) (by omega)).mono ?_; rintro e w' ⟨rfl, rfl⟩) | (go_at_call 22; refine (rform_any _ _ HSC.out).mono ?_; rintro e w' ⟨m, hm, hm1, hm4, rfl, rfl⟩; have HM := hide hm; clear hm) | (at_builtin; refine wpList_append_own _ rfl _ _ 22 rfl w.heap.size 5 i5 (.int .u8 0) 1 1 Try.underlying22 HI.out HZ0.out HZ1.out HZ2.out rfl (by decide) _ _ _ rfl (hown.out.alloc _) ⟨wr.heap.size, 0, none⟩ m m ((Utf.form x).map (Value.int .u8)) rfl ?c0 ?c1 ?c2 ?c3 ?c4 ?c5 ?_))
      case c0 => simp only [List.length_map, Nat.mul_one]; exact HM.out.symm
      case c1 => exact World.news_of_block (heap_alloc_new wr _)
      case c2 => exact ints_oneCell .u8 _
      case c3 => unfold maxLen; omega
      case c4 => omega
      case c5 => have := hbw.out.size; simp; omega
      intro v2 w2 hown2 hgrow2 _
      have HX := hide (rapp_close hbw.out hbw.out.size (by have := HL.out; omega) HXX.out.symm hown.out hown2 HN.out.symm HM.out hgrow2)
      clear hown2 hgrow2 hown
      go_wp2
      go_roundw
      case rel => exact ⟨q + 1, by omega, by go_num, HX.out.1, HX.out.2⟩
      case measure => simp [intOf]; omega
    · obtain rfl : q = j := by omega
      have hsc' : (Utf.size (l.getD q 0) == 0) = true := by simp only [beq_iff_eq]; exact HBD.out
      generalize l.getD q 0 = x at *
      clear hown HBD HF
      go_wp2_with (go_at_call 13; refine (rsize_any _ _ (by omega) (by omega)).mono ?_; rintro e w' ⟨rfl, rfl⟩)
      go_ret3
      exact ⟨rfl, hbw.out⟩
end Go.Proofs.Ytkcalmighgdojaa
