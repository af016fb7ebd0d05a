import Derived.Test.YtfcoebbblfcdoaaGreatDoorZ02
import Derived.Laws.IdiomStrings
import Derived.Deep.QuietTactic
import Derived.BigQuiet
/- The contracts of Encode. -/
namespace Go.Proofs.YtfcoebbblfcdoaaGreatDoor
open Go.RowKit
set_option linter.unusedVariables false
set_option maxHeartbeats 1000000 in
theorem encode_bad (ao : Option Addr) (n cap : Nat) (l : List Int) (w : World) (h : Row .i32 w ao n cap l) (hsz : n * 4 ≤ 140737488351232) (j : Nat) (hj : j < n) (hb : Utf.size (l.getD j 0) = 0) (hf : ∀ i, i < j → Utf.size (l.getD i 0) ≠ 0) :
    Calls Tryz.prog 11 #[.slice ao n cap] w fun e w' => e = .returned (.tuple #[.slice none 0 0, .int .i64 j, .int .i64 11]) ∧ w = w' := by
  obtain ⟨b, off, rfl, _, hc⟩ := h.cells (by omega)
  have hl := h.len
  have HC := hide hc
  have HF := hide hf
  have HB := hide hb
  have HL := hide hl
  clear hc hf hb h hl
  go_enter Tryz.func11, Tryz.ntmps11
  go_wp2
  go_loop [5, 14] (fun t i => ∃ (k : Nat) (s : Int), k ≤ j ∧ i = .int .i64 k ∧ t = .int .i64 s ∧ 0 ≤ s ∧ s ≤ 4 * k) (fun _ i => n - (intOf i).toNat)
  case atStart => exact ⟨0, 0, Nat.zero_le _, rfl, rfl, by omega, by omega⟩
  case round =>
    obtain ⟨k, s, hk, rfl, rfl, hs0, hs1⟩ := hrel
    have hck := HC.out k (by have := HL.out; omega)
    by_cases hlt : k < j
    · have hq := HF.out k hlt
      have hbd := Utf.size_bounds (l.getD k 0)
      generalize l.getD k 0 = x at *
      have hq' : (Utf.size x == 0) = false := by simp [hq]
      go_wp2_with (go_at_call 25; refine (size_any _ _).mono ?_; rintro e w' ⟨rfl, rfl⟩)
      go_round
      case rel => exact ⟨k + 1, _, by omega, by go_num, rfl, by omega, by omega⟩
      case measure => simp [intOf]; omega
    · obtain rfl : k = j := by omega
      have hq := HB.out
      generalize l.getD k 0 = x at *
      have hq' : (Utf.size x == 0) = true := by simp [hq]
      clear hq HB HF
      go_wp2_with (go_at_call 25; refine (size_any _ _).mono ?_; rintro e w' ⟨rfl, rfl⟩)
      go_ret3
      exact ⟨rfl, rfl⟩
set_option maxHeartbeats 2000000 in
theorem encode_ok (ao : Option Addr) (n cap : Nat) (l : List Int) (w : World) (h : Row .i32 w ao n cap l) (hsz : n * 4 ≤ 140737488351232) (hok : ∀ x ∈ l, Utf.size x ≠ 0) :
    Calls Tryz.prog 11 #[.slice ao n cap] w fun e w' => ∃ v, e = .returned (.tuple #[v, .int .i64 0, .int .i64 0]) ∧ w'.ownsRow w.heap.size 5 1 v (Utf.enc l).length ((Utf.enc l).map (Value.int .u8)) ∧ Below w.heap.size w w' := by
  have hl := h.len
  have HR := hide h
  have HL := hide hl
  have HO := hide hok
  clear h hl hok
  obtain ⟨i5, hi, hz0, hz1, hz2⟩ := info_parts Tryz.info5
  have HI : Hid (Tryz.prog.info? 5 = some i5) := hi
  have HZ0 := hide hz0
  have HZ1 := hide hz1
  have HZ2 := hide hz2
  clear hi hz0 hz1 hz2
  go_enter Tryz.func11, Tryz.ntmps11
  go_wp2
  go_loop [5, 14] (fun t i => ∃ (k : Nat) (s : Int), k ≤ n ∧ i = .int .i64 k ∧ t = .int .i64 s ∧ 0 ≤ s ∧ s ≤ 4 * k) (fun _ i => n - (intOf i).toNat)
  case atStart => exact ⟨0, 0, Nat.zero_le _, rfl, rfl, by omega, by omega⟩
  case round =>
    obtain ⟨k, s, hk, rfl, rfl, hs0, hs1⟩ := hrel
    by_cases hlt : k < n
    · obtain ⟨b, off, rfl, _, hc⟩ := HR.out.cells (by omega)
      have hck := hc k (by have := HL.out; omega)
      have hq := Utf.scalar_at HO.out (k := k) (by have := HL.out; omega)
      have hbd := Utf.size_bounds (l.getD k 0)
      clear hc
      generalize l.getD k 0 = x at *
      have hq' : (Utf.size x == 0) = false := by simp [hq]
      go_wp2_with (go_at_call 25; refine (size_any _ _).mono ?_; rintro e w' ⟨rfl, rfl⟩)
      go_round
      case rel => exact ⟨k + 1, _, by omega, by go_num, rfl, by omega, by omega⟩
      case measure => simp [intOf]; omega
    · obtain rfl : k = n := by omega
      obtain ⟨m, rfl⟩ := Int.eq_ofNat_of_zero_le hs0
      go_wp2_with (first | (at_make; refine wpList_make_own _ rfl _ _ 22 rfl w.heap.size 5 i5 (.int .u8 0) 1 Tryz.underlying22 HI.out HZ0.out HZ1.out _ _ _ m rfl rfl rfl ?b2 ?b3 ?b4 ?_))
      case b2 => rw [HZ2.out]; omega
      case b3 => unfold maxLen; omega
      intro w1 hown hgrow
      have hbel := hide ((Below.refl w.heap.size w).grown hgrow (Nat.le_refl _) (fun _ h => by cases h))
      have HW := hide hown
      clear hown hgrow
      go_wp2
      go_loopw [9, 32] (fun v i wr => ∃ q : Nat, q ≤ k ∧ i = .int .i64 q ∧ Hid (wr.ownsRow w.heap.size 5 1 v (Utf.enc (l.take q)).length ((Utf.enc (l.take q)).map (Value.int .u8))) ∧ Hid (Below w.heap.size w wr)) (fun _ i _ => k - (intOf i).toNat)
      case atStart => exact ⟨0, Nat.zero_le _, rfl, HW, hbel⟩
      case round =>
        obtain ⟨q, hq, rfl, hown, hbw⟩ := hrel
        by_cases hlt2 : q < k
        · obtain ⟨b, off, rfl, hbl, hc⟩ := HR.out.cells (by omega)
          have hck := (hbw.out.cell (by exact hbl)).trans (hc q (by have := HL.out; omega))
          have hsc := Utf.scalar_at HO.out (k := q) (by have := HL.out; omega)
          have hel := Utf.enc_le (l.take q)
          have hle : (l.take q).length ≤ q := List.length_take_le _ _
          have HA := hide (append_any w.heap.size _ _ _ (l.getD q 0) wr hown.out hbw.out.size (by omega) hsc)
          have HS := hide (Utf.enc_snoc l q (by have := HL.out; omega))
          clear hc hsc hel hle hown
          generalize l.getD q 0 = x at *
          go_wp2_with (go_at_call 26; refine HA.out.mono ?_; rintro e w2 ⟨v2, rfl, ho2, hb2⟩)
          have HB2 := hide (hbw.out.trans hb2)
          have HO2 := hide ho2
          clear ho2 hb2
          go_wp2
          go_roundw
          case rel => exact ⟨q + 1, by omega, by go_num, by rw [HS.out, List.length_append]; exact HO2, HB2⟩
          case measure => simp [intOf]; omega
        · obtain rfl : q = k := by omega
          have ht : l.take q = l := List.take_of_length_le (by have := HL.out; omega)
          rw [ht] at hown
          go_wp2
          go_ret3
          exact ⟨_, rfl, hown.out, hbw.out⟩
end Go.Proofs.YtfcoebbblfcdoaaGreatDoor

/- The contracts of the document's form and Encode. -/
namespace Go.Proofs.YtfcoebbblfcdoaaGreatDoor
open Go.RowKit
set_option linter.unusedVariables false
set_option maxRecDepth 100000
set_option maxHeartbeats 1000000 in
theorem rform_any (r : Int) (w : World) (hr : Utf.size r ≠ 0) :
    Calls Tryz.prog 28 #[.int .i32 r] w fun e w' => ∃ m, m = (Utf.form r).length ∧ 1 ≤ m ∧ m ≤ 4 ∧ e = .returned (.slice (some ⟨w.heap.size, 0, none⟩) m m) ∧ w' = w.alloc (.cells ((Utf.form r).map (Value.int .u8)).toArray 5) := by
  have hs := Utf.size_cases r
  by_cases h1 : r < 128
  · have hr0 : 0 ≤ r := by omega
    have hs1 : Utf.size r = 1 := by omega
    have HF : Hid (Utf.form r = [r]) := by simp [Hid, Utf.form, h1]
    clear hs hr
    go_enter Tryz.func28, Tryz.ntmps28
    go_wp2_with (go_at_call 27; refine (ursize_any _ _ (by omega) (by omega)).mono ?_; rintro e w' ⟨rfl, rfl⟩)
    go_ret
    rw [HF.out]
    exact ⟨_, rfl, by simp, by simp, rfl, rfl⟩
  by_cases h2 : r < 2048
  · have hr0 : 128 ≤ r := by omega
    have hs1 : Utf.size r = 2 := by omega
    have HF : Hid (Utf.form r = [192 + r / 64, 128 + r % 64]) := by simp [Hid, Utf.form, h1, h2]
    clear hs hr
    go_enter Tryz.func28, Tryz.ntmps28
    go_wp2_with (go_at_call 27; refine (ursize_any _ _ (by omega) (by omega)).mono ?_; rintro e w' ⟨rfl, rfl⟩)
    go_ret
    rw [HF.out]
    exact ⟨_, rfl, by simp, by simp, rfl, rfl⟩
  by_cases h3 : r < 65536
  · have hr0 : 2048 ≤ r := by omega
    have hs1 : Utf.size r = 3 := by omega
    have HF : Hid (Utf.form r = [224 + r / 4096, 128 + r / 64 % 64, 128 + r % 64]) := by simp [Hid, Utf.form, h1, h2, h3]
    clear hs hr
    go_enter Tryz.func28, Tryz.ntmps28
    go_wp2_with (go_at_call 27; refine (ursize_any _ _ (by omega) (by omega)).mono ?_; rintro e w' ⟨rfl, rfl⟩)
    go_ret
    rw [HF.out]
    exact ⟨_, rfl, by simp, by simp, rfl, rfl⟩
  · have hr0 : 65536 ≤ r := by omega
    have hr1 : r ≤ 1114111 := by omega
    have hs1 : Utf.size r = 4 := by omega
    have HF : Hid (Utf.form r = [240 + r / 262144, 128 + r / 4096 % 64, 128 + r / 64 % 64, 128 + r % 64]) := by simp [Hid, Utf.form, h1, h2, h3]
    clear hs hr
    go_enter Tryz.func28, Tryz.ntmps28
    go_wp2_with (go_at_call 27; refine (ursize_any _ _ (by omega) (by omega)).mono ?_; rintro e w' ⟨rfl, rfl⟩)
    go_ret
    rw [HF.out]
    exact ⟨_, rfl, by simp, by simp, rfl, rfl⟩
theorem rapp_close {base n m : Nat} {v v' : Value} {l : List Int} {q : Nat} {w w1 w2 : World} {x : Int} (hb : Below base w1 w) (hB : base ≤ w.heap.size) (hq : q < l.length) (hx : x = l.getD q 0) (hown : w.ownsRow base 5 1 v n ((Utf.enc (l.take q)).map (Value.int .u8)))
    (h1 : w2.ownsRow base 5 1 v' (n + m) ((Utf.enc (l.take q)).map (Value.int .u8) ++ (Utf.form x).map (Value.int .u8))) (hn : n = (Utf.enc (l.take q)).length) (hm : m = (Utf.form x).length)
    (hg : (w.alloc (.cells ((Utf.form x).map (Value.int .u8)).toArray 5)).grownBy w2 v.ownBlock) :
    w2.ownsRow base 5 1 v' (Utf.enc (l.take (q + 1))).length ((Utf.enc (l.take (q + 1))).map (Value.int .u8)) ∧ Below base w1 w2 := by
  subst hx hm hn
  rw [Utf.enc_snoc l q hq, List.map_append, List.length_append]
  exact ⟨h1, hb.trans (((Below.refl base w).alloc hB _).grown hg (by simp; omega) (fun k hk => (hown.lt k hk).1))⟩
set_option maxHeartbeats 2000000 in
theorem rencode_ok (ao : Option Addr) (n cap : Nat) (l : List Int) (w : World) (h : Row .i32 w ao n cap l) (hsz : n * 4 ≤ 140737488351232) (hok : ∀ x ∈ l, Utf.size x ≠ 0) :
    Calls Tryz.prog 12 #[.slice ao n cap] w fun e w' => ∃ v, e = .returned (.tuple #[v, .int .i64 0, .int .i64 0]) ∧ w'.ownsRow w.heap.size 5 1 v (Utf.enc l).length ((Utf.enc l).map (Value.int .u8)) ∧ Below w.heap.size w w' := by
  have hl := h.len
  have HR := hide h
  have HL := hide hl
  have HO := hide hok
  clear h hl hok
  obtain ⟨i5, hi, hz0, hz1, hz2⟩ := info_parts Tryz.info5
  have HI : Hid (Tryz.prog.info? 5 = some i5) := hi
  have HZ0 := hide hz0
  have HZ1 := hide hz1
  have HZ2 := hide hz2
  clear hi hz0 hz1 hz2
  go_enter Tryz.func12, Tryz.ntmps12
  go_wp2
  go_loopw [5, 6] (fun v i wr => ∃ q : Nat, q ≤ n ∧ i = .int .i64 q ∧ Hid (wr.ownsRow w.heap.size 5 1 v (Utf.enc (l.take q)).length ((Utf.enc (l.take q)).map (Value.int .u8))) ∧ Hid (Below w.heap.size w wr)) (fun _ i _ => n - (intOf i).toNat)
  case atStart => exact ⟨0, Nat.zero_le _, rfl, World.ownsRow_nil _ _ _ _, Below.refl _ _⟩
  case round =>
    obtain ⟨q, hq, rfl, hown, hbw⟩ := hrel
    by_cases hlt2 : q < n
    · obtain ⟨b, off, rfl, hbl, hc⟩ := HR.out.cells (by omega)
      have hck := (hbw.out.cell (by exact hbl)).trans (hc q (by have := HL.out; omega))
      have hsc := Utf.scalar_at HO.out (k := q) (by have := HL.out; omega)
      have hsb := Utf.size_cases (l.getD q 0)
      have hel := Utf.enc_le (l.take q)
      have hle : (l.take q).length ≤ q := List.length_take_le _ _
      have hfl := Utf.form_le (l.getD q 0)
      have hen : (Utf.enc (l.take q)).length ≤ 4 * q := by omega
      generalize hN : (Utf.enc (l.take q)).length = N at hown hen
      have HN := hide hN
      have hx0 : -2147483648 ≤ l.getD q 0 ∧ l.getD q 0 ≤ 2147483647 := by omega
      clear hc hel hle hN hsb
      generalize hxx : l.getD q 0 = x at hck hsc hfl hx0
      have HXX := hide hxx
      have hsc' : (Utf.size x == 0) = false := by simp [hsc]
      have HSC := hide hsc
      clear hxx hsc
      obtain ⟨hx0, hx1⟩ := hx0
      go_wp2_with (first | (go_at_call 27; refine (ursize_any _ _ (by omega) (by omega)).mono ?_; rintro e w' ⟨rfl, rfl⟩) | (go_at_call 28; refine (rform_any _ _ HSC.out).mono ?_; rintro e w' ⟨m, hm, hm1, hm4, rfl, rfl⟩; have HM := hide hm; clear hm) | (at_builtin; refine wpList_append_own _ rfl _ _ 22 rfl w.heap.size 5 i5 (.int .u8 0) 1 1 Tryz.underlying22 HI.out HZ0.out HZ1.out HZ2.out rfl (by decide) _ _ _ rfl (hown.out.alloc _) ⟨wr.heap.size, 0, none⟩ m m ((Utf.form x).map (Value.int .u8)) rfl ?c0 ?c1 ?c2 ?c3 ?c4 ?c5 ?_))
      case c0 => simp only [List.length_map, Nat.mul_one]; exact HM.out.symm
      case c1 => exact World.news_of_block (heap_alloc_new wr _)
      case c2 => exact ints_oneCell .u8 _
      case c3 => unfold maxLen; omega
      case c4 => omega
      case c5 => have := hbw.out.size; simp; omega
      intro v2 w2 hown2 hgrow2 _
      have HX := hide (rapp_close hbw.out hbw.out.size (by have := HL.out; omega) HXX.out.symm hown.out hown2 HN.out.symm HM.out hgrow2)
      clear hown2 hgrow2 hown
      go_wp2
      go_roundw
      case rel => exact ⟨q + 1, by omega, by go_num, HX.out.1, HX.out.2⟩
      case measure => simp [intOf]; omega
    · obtain rfl : q = n := by omega
      have ht : l.take q = l := List.take_of_length_le (by have := HL.out; omega)
      rw [ht] at hown
      go_wp2
      go_ret3
      exact ⟨_, rfl, hown.out, hbw.out⟩
set_option maxHeartbeats 1000000 in
theorem rencode_bad (ao : Option Addr) (n cap : Nat) (l : List Int) (w : World) (h : Row .i32 w ao n cap l) (hwf : ∀ x ∈ l, -2147483648 ≤ x ∧ x ≤ 2147483647) (hsz : n * 4 ≤ 140737488351232) (j : Nat) (hj : j < n) (hb : Utf.size (l.getD j 0) = 0) (hf : ∀ i, i < j → Utf.size (l.getD i 0) ≠ 0) :
    Calls Tryz.prog 12 #[.slice ao n cap] w fun e w' => e = .returned (.tuple #[.slice none 0 0, .int .i64 j, .int .i64 11]) ∧ Below w.heap.size w w' := by
  have hl := h.len
  have HR := hide h
  have HL := hide hl
  have HF := hide hf
  have HBD := hide hb
  have HWF := hide hwf
  clear h hl hf hb hwf
  obtain ⟨i5, hi, hz0, hz1, hz2⟩ := info_parts Tryz.info5
  have HI : Hid (Tryz.prog.info? 5 = some i5) := hi
  have HZ0 := hide hz0
  have HZ1 := hide hz1
  have HZ2 := hide hz2
  clear hi hz0 hz1 hz2
  go_enter Tryz.func12, Tryz.ntmps12
  go_wp2
  go_loopw [5, 6] (fun v i wr => ∃ q : Nat, q ≤ j ∧ i = .int .i64 q ∧ Hid (wr.ownsRow w.heap.size 5 1 v (Utf.enc (l.take q)).length ((Utf.enc (l.take q)).map (Value.int .u8))) ∧ Hid (Below w.heap.size w wr)) (fun _ i _ => n - (intOf i).toNat)
  case atStart => exact ⟨0, Nat.zero_le _, rfl, World.ownsRow_nil _ _ _ _, Below.refl _ _⟩
  case round =>
    obtain ⟨q, hq, rfl, hown, hbw⟩ := hrel
    obtain ⟨b, off, rfl, hbl, hc⟩ := HR.out.cells (by omega)
    have hck := (hbw.out.cell (by exact hbl)).trans (hc q (by have := HL.out; omega))
    have hx0 : -2147483648 ≤ l.getD q 0 ∧ l.getD q 0 ≤ 2147483647 := by
      have hk : q < l.length := by have := HL.out; omega
      have e : l.getD q 0 = l[q] := by simp [List.getD, List.getElem?_eq_getElem hk]
      rw [e]; exact HWF.out _ (List.getElem_mem _)
    clear hc
    obtain ⟨hx0, hx1⟩ := hx0
    by_cases hlt2 : q < j
    · have hsc := HF.out q hlt2
      have hel := Utf.enc_le (l.take q)
      have hle : (l.take q).length ≤ q := List.length_take_le _ _
      have hen : (Utf.enc (l.take q)).length ≤ 4 * q := by omega
      generalize hN : (Utf.enc (l.take q)).length = N at hown hen
      have HN := hide hN
      clear hel hle hN
      generalize hxx : l.getD q 0 = x at hck hsc hx0 hx1
      have HXX := hide hxx
      have hsc' : (Utf.size x == 0) = false := by simp [hsc]
      have HSC := hide hsc
      clear hxx hsc
      go_wp2_with (first | (go_at_call 27; refine (ursize_any _ _ (by omega) (by omega)).mono ?_; rintro e w' ⟨rfl, rfl⟩) | (go_at_call 28; refine (rform_any _ _ HSC.out).mono ?_; rintro e w' ⟨m, hm, hm1, hm4, rfl, rfl⟩; have HM := hide hm; clear hm) | (at_builtin; refine wpList_append_own _ rfl _ _ 22 rfl w.heap.size 5 i5 (.int .u8 0) 1 1 Tryz.underlying22 HI.out HZ0.out HZ1.out HZ2.out rfl (by decide) _ _ _ rfl (hown.out.alloc _) ⟨wr.heap.size, 0, none⟩ m m ((Utf.form x).map (Value.int .u8)) rfl ?c0 ?c1 ?c2 ?c3 ?c4 ?c5 ?_))
      case c0 => simp only [List.length_map, Nat.mul_one]; exact HM.out.symm
      case c1 => exact World.news_of_block (heap_alloc_new wr _)
      case c2 => exact ints_oneCell .u8 _
      case c3 => unfold maxLen; omega
      case c4 => omega
      case c5 => have := hbw.out.size; simp; omega
      intro v2 w2 hown2 hgrow2 _
      have HX := hide (rapp_close hbw.out hbw.out.size (by have := HL.out; omega) HXX.out.symm hown.out hown2 HN.out.symm HM.out hgrow2)
      clear hown2 hgrow2 hown
      go_wp2
      go_roundw
      case rel => exact ⟨q + 1, by omega, by go_num, HX.out.1, HX.out.2⟩
      case measure => simp [intOf]; omega
    · obtain rfl : q = j := by omega
      have hsc' : (Utf.size (l.getD q 0) == 0) = true := by simp only [beq_iff_eq]; exact HBD.out
      generalize l.getD q 0 = x at *
      clear hown HBD HF
      go_wp2_with (go_at_call 27; refine (ursize_any _ _ (by omega) (by omega)).mono ?_; rintro e w' ⟨rfl, rfl⟩)
      go_ret3
      exact ⟨rfl, hbw.out⟩
end Go.Proofs.YtfcoebbblfcdoaaGreatDoor

/- string(b) of a row of bytes. -/
namespace Go.Proofs.YtfcoebbblfcdoaaGreatDoor
open Go.RowKit
set_option linter.unusedVariables false
/-- The text of bytes. -/
def str (zs : List Int) : ByteArray := ⟨(zs.map (fun z => UInt8.ofNat z.toNat)).toArray⟩
theorem byte_back {z : Int} (h0 : 0 ≤ z) (h1 : z ≤ 255) : ((UInt8.ofNat z.toNat).toNat : Int) = z := by
  rw [UInt8.toNat_ofNat']
  omega
theorem run_str (w : World) (ao : Option Addr) (n cap : Nat) (zs : List Int) (h : Row .u8 w ao n cap zs) (hb : Bytes zs) :
    (convert 22 9 (.slice ao n cap)).run Tryz.prog w = .ok (.string (str zs)) w := by
  by_cases h0 : 0 < n
  · obtain ⟨b, off, rfl, _, hc⟩ := h.cells h0
    have hl : (zs.map (fun z => UInt8.ofNat z.toNat)).length = n := by simp [h.len]
    have := run_convert_bytes_back (P := Tryz.prog) w 22 9 5 ⟨b, off, none⟩ cap (zs.map (fun z => UInt8.ofNat z.toNat)) Tryz.underlying22 Tryz.underlying5 Tryz.underlying9 (fun j hj => by
      have hj' : j < zs.length := by simpa using hj
      have hadd : (⟨b, off, none⟩ : Addr).add j = ⟨b, off + j, none⟩ := by unfold Addr.add; split <;> simp_all
      rw [hadd, hc j hj']
      have e : zs.getD j 0 = zs[j] := by simp [List.getD, List.getElem?_eq_getElem hj']
      rw [e]
      have hbz := hb zs[j] (List.getElem_mem _)
      simp only [List.getElem_map]
      rw [byte_back hbz.1 hbz.2])
    rw [hl] at this
    exact this
  · obtain rfl : n = 0 := by omega
    obtain rfl : zs = [] := List.length_eq_zero_iff.1 h.len
    rw [run_convert_bytes_string w 22 9 5 ao 0 cap Tryz.underlying22 Tryz.underlying5 Tryz.underlying9]
    cases ao <;> rfl
end Go.Proofs.YtfcoebbblfcdoaaGreatDoor

/- The contract of Same, where both lists are the same. -/
namespace Go.Proofs.YtfcoebbblfcdoaaGreatDoor
open Go.RowKit
set_option linter.unusedVariables false
end Go.Proofs.YtfcoebbblfcdoaaGreatDoor

/- The contracts of Decode. -/
namespace Go.Proofs.YtfcoebbblfcdoaaGreatDoor
open Go.RowKit
set_option linter.unusedVariables false
theorem Tryz.info21 : (Tryz.prog.info? 21).map (fun i => (i.zero, i.size, i.bytes)) = some (some (.int .i32 0), 1, 4) := by kernel_rfl
set_option maxHeartbeats 1000000 in
theorem decode_no (ao : Option Addr) (n cap : Nat) (xs : List Int) (w : World) (h : Row .u8 w ao n cap xs) (hb : Bytes xs) (hw : (Utf.dec xs).2 < n) :
    Calls Tryz.prog 4 #[.slice ao n cap] w fun e w' => e = .returned (.tuple #[.slice none 0 0, .int .i64 (Utf.dec xs).2, .int .i64 10]) ∧ w = w' := by
  have hd := hide (measure_any ao n cap xs w h hb)
  generalize (Utf.dec xs).2 = m at *
  clear h
  go_enter Tryz.func4, Tryz.ntmps4
  go_wp2_with (go_at_call 13; refine hd.out.mono ?_; rintro e w' ⟨rfl, rfl⟩)
  go_ret3
  exact ⟨rfl, rfl⟩
set_option maxHeartbeats 1000000 in
theorem decode_yes (ao : Option Addr) (n cap : Nat) (xs : List Int) (w : World) (h : Row .u8 w ao n cap xs) (hb : Bytes xs) (hw : (Utf.dec xs).2 = n) (hsz : n ≤ 35184372088832) :
    Calls Tryz.prog 4 #[.slice ao n cap] w fun e w' => ∃ v, e = .returned (.tuple #[v, .int .i64 0, .int .i64 0]) ∧ w'.ownsRow w.heap.size 21 1 v (Utf.dec xs).1.length ((Utf.dec xs).1.map (Value.int .i32)) ∧ Below w.heap.size w w' := by
  have hd := hide (measure_any ao n cap xs w h hb)
  rw [hw] at hd
  have hml := (Utf.dec_le xs.length xs (Nat.le_refl _)).2
  rw [hw] at hml
  have hle := h.le
  have hmx := h.max
  unfold maxLen at hmx
  have HL := hide h.len
  have HW := hide hw
  have HR := hide h
  have HB := hide hb
  generalize hm : (Utf.dec xs).1.length = m at *
  have HM := hide hm
  clear h hm hw hb
  obtain ⟨i21, hi, hz0, hz1, hz2⟩ := info_parts Tryz.info21
  have HI : Hid (Tryz.prog.info? 21 = some i21) := hi
  have HZ0 := hide hz0
  have HZ1 := hide hz1
  have HZ2 := hide hz2
  clear hi hz0 hz1 hz2
  go_enter Tryz.func4, Tryz.ntmps4
  go_wp2_with (first | (go_at_call 13; refine hd.out.mono ?_; rintro e w' ⟨rfl, rfl⟩) | (at_make; refine wpList_make_full _ rfl _ _ 23 rfl w.heap.size 21 i21 (.int .i32 0) 1 Tryz.underlying23 HI.out HZ0.out HZ1.out _ _ _ _ m rfl rfl rfl rfl ?b2 ?b3 (Nat.le_refl _) ?_))
  case b2 => rw [HZ2.out]; omega
  case b3 => unfold maxLen; omega
  intro w1 hown hgrow
  have hbel := hide ((Below.refl w.heap.size w).grown hgrow (Nat.le_refl _) (fun _ h => by cases h))
  have HO : Hid (w1.ownsRow w.heap.size 21 1 (.slice (some ⟨w.heap.size, 0, none⟩) m m) m ((Utf.fill (Utf.dec xs).1 m 0).map (Value.int .i32))) := by
    have e : (madeCells #[Value.int .i32 0] m).toList = (Utf.fill (Utf.dec xs).1 m 0).map (Value.int .i32) := by
      rw [Utf.fill_zero]
      simp [toList_madeCells_one]
    rw [← e]; exact hown
  clear hown hgrow
  go_wp2
  go_loopw [8, 26] (fun a i wr => ∃ k e : Nat, k ≤ m ∧ e ≤ n ∧ i = .int .i64 k ∧ a = .int .i64 e ∧ Hid (Utf.Part xs k e) ∧ Hid (wr.ownsRow w.heap.size 21 1 (.slice (some ⟨w.heap.size, 0, none⟩) m m) m ((Utf.fill (Utf.dec xs).1 m k).map (Value.int .i32))) ∧ Hid (Below w.heap.size w wr)) (fun _ i _ => m - (intOf i).toNat)
  case atStart => exact ⟨0, 0, Nat.zero_le _, Nat.zero_le _, rfl, rfl, Utf.Part.start xs, HO, hbel⟩
  case round =>
    obtain ⟨k, e, hk, he, rfl, rfl, hp, hown, hbw⟩ := hrel
    by_cases hlt : k < m
    · obtain ⟨s0, s1, s2, s3⟩ := hp.out.step (by have := HM.out; omega)
      have hen : e < n := by have := HL.out; omega
      obtain ⟨b, off, rfl, hbl, hc⟩ := HR.out.cells (by omega)
      have hrd := hide (read_any b (off + e) (n - e) (cap - e) (xs.drop e) wr (by rw [List.length_drop, HL.out]) (by omega) (by omega) (by have := HR.out.max; omega) (HB.out.drop e) (fun i hi => (hbw.out.cell (by exact hbl)).trans (hc.drop e i hi)))
      have hbd := Utf.read_bounds (xs.drop e)
      rw [List.length_drop, HL.out] at hbd
      have hcell := hown.out.cellAt k (by omega)
      have hfz := hown.out.frozenAt k
      rw [List.getElem?_map, List.getElem?_eq_getElem (by rw [Utf.fill_len _ _ _ HM.out hk]; omega)] at hcell
      simp only [Option.map_some] at hcell
      have hst := (hown.out.stored k (.int .i32 (Utf.read (xs.drop e)).1)).1
      rw [← List.map_set, s1, Utf.fill_step _ _ _ HM.out hlt, ← s1] at hst
      have HS := hide hst
      have H2 := hide s2
      have hbS := hide (hbw.out.setCell (p := ⟨w.heap.size, k, none⟩) (Nat.le_refl _) (.int .i32 (Utf.read (xs.drop e)).1))
      rcases hR : Utf.read (xs.drop e) with ⟨v, s⟩
      rw [hR] at hrd hbd HS H2 s0 hbS
      simp only at hbd s0
      obtain ⟨hb1, hb2, hb3, _⟩ := hbd
      have hz' : (s == 0) = false := by simp [s0]
      generalize (Utf.fill (Utf.dec xs).1 m k)[k]'_ = old at hcell
      clear hR s1 s2 hst hown hc hp
      go_wp2_with (go_at_call 14; refine hrd.out.mono ?_; rintro e w' ⟨rfl, rfl⟩)
      go_roundw
      case rel => exact ⟨k + 1, e + s.toNat, by omega, by omega, by go_num, by go_num, H2, HS, hbS⟩
      case measure => simp [intOf]; omega
    · obtain rfl : k = m := by omega
      rw [Utf.fill_all _ _ HM.out] at hown
      go_wp2
      go_ret3
      exact ⟨_, rfl, hown.out, hbw.out⟩
end Go.Proofs.YtfcoebbblfcdoaaGreatDoor

/- Plain mathematics: forms are read as they were written, and nothing else is. -/
namespace Go.Proofs.YtfcoebbblfcdoaaGreatDoor
namespace Utf
theorem first_eq {c r s : Int} (h : (c < 128 ∧ r = c ∧ s = 1) ∨ (192 ≤ c ∧ c < 224 ∧ r = c - 192 ∧ s = 2) ∨ (224 ≤ c ∧ c < 240 ∧ r = c - 224 ∧ s = 3) ∨ (240 ≤ c ∧ c < 248 ∧ r = c - 240 ∧ s = 4)) : first c = (r, s) := by
  unfold first
  repeat' split
  all_goals simp only [Prod.mk.injEq]
  all_goals omega
theorem read_form {v : Int} (h : size v ≠ 0) (rest : List Int) : read (form v ++ rest) = (v, size v) := by
  have hs := size_cases v
  by_cases h1 : v < 128
  · have e : form v = [v] := by simp [form, h1]
    have z : size v = 1 := by omega
    have hf : first v = (v, 1) := first_eq (by omega)
    rw [e, z]
    have : read (v :: rest) = (v, (first v).2) := read_some (by rw [hf]; simp; omega) (by rw [hf]; simp [conts]) (by rw [hf]; exact z)
    rw [hf] at this
    exact this
  by_cases h2 : v < 2048
  · have e : form v = [192 + v / 64, 128 + v % 64] := by simp [form, h1, h2]
    have z : size v = 2 := by omega
    have hf : first (192 + v / 64) = (v / 64, 2) := first_eq (by omega)
    rw [e, z]
    have : read ((192 + v / 64) :: (128 + v % 64) :: rest) = (v, (first (192 + v / 64)).2) := read_some (by rw [hf]; simp; omega)
      (by rw [hf]; simp only [Int.toNat, List.take, conts]; rw [if_neg (by omega)]; congr 1; omega) (by rw [hf]; exact z)
    rw [hf] at this
    exact this
  by_cases h3 : v < 65536
  · have e : form v = [224 + v / 4096, 128 + v / 64 % 64, 128 + v % 64] := by simp [form, h1, h2, h3]
    have z : size v = 3 := by omega
    have hf : first (224 + v / 4096) = (v / 4096, 3) := first_eq (by omega)
    rw [e, z]
    have : read ((224 + v / 4096) :: (128 + v / 64 % 64) :: (128 + v % 64) :: rest) = (v, (first (224 + v / 4096)).2) := read_some (by rw [hf]; simp; omega)
      (by rw [hf]; simp only [Int.toNat, List.take, conts]; rw [if_neg (by omega), if_neg (by omega)]; congr 1; omega) (by rw [hf]; exact z)
    rw [hf] at this
    exact this
  · have e : form v = [240 + v / 262144, 128 + v / 4096 % 64, 128 + v / 64 % 64, 128 + v % 64] := by simp [form, h1, h2, h3]
    have z : size v = 4 := by omega
    have hf : first (240 + v / 262144) = (v / 262144, 4) := first_eq (by omega)
    rw [e, z]
    have : read ((240 + v / 262144) :: (128 + v / 4096 % 64) :: (128 + v / 64 % 64) :: (128 + v % 64) :: rest) = (v, (first (240 + v / 262144)).2) := read_some (by rw [hf]; simp; omega)
      (by rw [hf]; simp only [Int.toNat, List.take, conts]; rw [if_neg (by omega), if_neg (by omega), if_neg (by omega)]; congr 1; omega) (by rw [hf]; exact z)
    rw [hf] at this
    exact this
theorem first_inv {c : Int} : (c < 128 ∧ first c = (c, 1)) ∨ (192 ≤ c ∧ c < 224 ∧ first c = (c - 192, 2)) ∨ (224 ≤ c ∧ c < 240 ∧ first c = (c - 224, 3)) ∨ (240 ≤ c ∧ c < 248 ∧ first c = (c - 240, 4)) ∨ (first c).2 = 0 := by
  unfold first
  repeat' split
  all_goals simp
  all_goals omega
/-- What is read is a form that stands there. -/
theorem form_read {ys : List Int} (h : (read ys).2 ≠ 0) (hb : ∀ x ∈ ys, 0 ≤ x ∧ x ≤ 255) : form (read ys).1 = ys.take (read ys).2.toNat ∧ size (read ys).1 = (read ys).2 := by
  have hz := (read_bounds ys).2.2.2
  rw [if_neg h] at hz
  refine ⟨?_, hz⟩
  cases ys with
  | nil => simp [read] at h
  | cons c cs =>
    by_cases h0 : (first c).2 = 0 ∨ (cs.length : Int) + 1 < (first c).2
    · rw [read_short h0] at h; simp at h
    cases hc : conts (first c).1 (cs.take ((first c).2.toNat - 1)) with
    | none => rw [read_none hc] at h; simp at h
    | some v =>
      by_cases hs : size v = (first c).2
      · have hr := read_some h0 hc hs
        rw [hr] at h ⊢
        simp only
        have hv := size_cases v
        have hc0 := hb c (by simp)
        rcases first_inv (c := c) with ⟨g, hf⟩ | ⟨g, g', hf⟩ | ⟨g, g', hf⟩ | ⟨g, g', hf⟩ | hf
        · rw [hf] at hc hs ⊢
          simp [conts] at hc
          subst hc
          simp [form, g]
        · rw [hf] at hc hs h0 ⊢
          simp only at hs h0
          match cs, h0 with
          | [], h0 => simp at h0
          | c1 :: cs, _ =>
            simp only [Int.toNat, List.take, conts] at hc
            split at hc
            · simp at hc
            simp only [Option.some.injEq] at hc
            have e : form v = [192 + v / 64, 128 + v % 64] := by simp only [form]; rw [if_neg (by omega), if_pos (by omega)]
            rw [e]
            simp only [Int.toNat, List.take]
            rw [show 192 + v / 64 = c from by omega, show 128 + v % 64 = c1 from by omega]
        · rw [hf] at hc hs h0 ⊢
          simp only at hs h0
          match cs, h0 with
          | [], h0 => simp at h0
          | [_], h0 => simp at h0
          | c1 :: c2 :: cs, _ =>
            simp only [Int.toNat, List.take, conts] at hc
            split at hc
            · simp at hc
            split at hc
            · simp at hc
            simp only [Option.some.injEq] at hc
            have e : form v = [224 + v / 4096, 128 + v / 64 % 64, 128 + v % 64] := by simp only [form]; rw [if_neg (by omega), if_neg (by omega), if_pos (by omega)]
            rw [e]
            simp only [Int.toNat, List.take]
            rw [show 224 + v / 4096 = c from by omega, show 128 + v / 64 % 64 = c1 from by omega, show 128 + v % 64 = c2 from by omega]
        · rw [hf] at hc hs h0 ⊢
          simp only at hs h0
          match cs, h0 with
          | [], h0 => simp at h0
          | [_], h0 => simp at h0
          | [_, _], h0 => simp at h0
          | c1 :: c2 :: c3 :: cs, _ =>
            simp only [Int.toNat, List.take, conts] at hc
            split at hc
            · simp at hc
            split at hc
            · simp at hc
            split at hc
            · simp at hc
            simp only [Option.some.injEq] at hc
            have e : form v = [240 + v / 262144, 128 + v / 4096 % 64, 128 + v / 64 % 64, 128 + v % 64] := by simp only [form]; rw [if_neg (by omega), if_neg (by omega), if_neg (by omega)]
            rw [e]
            simp only [Int.toNat, List.take]
            rw [show 240 + v / 262144 = c from by omega, show 128 + v / 4096 % 64 = c1 from by omega, show 128 + v / 64 % 64 = c2 from by omega, show 128 + v % 64 = c3 from by omega]
        · exact absurd hf (by omega)
      · rw [read_odd hc hs] at h; simp at h
/-- The number that so many bytes would be. -/
def val : Nat → List Int → Int
  | 1, x0 :: _ => x0
  | 2, x0 :: x1 :: _ => (x0 - 192) * 64 + x1 - 128
  | 3, x0 :: x1 :: x2 :: _ => ((x0 - 224) * 64 + x1 - 128) * 64 + x2 - 128
  | 4, x0 :: x1 :: x2 :: x3 :: _ => (((x0 - 240) * 64 + x1 - 128) * 64 + x2 - 128) * 64 + x3 - 128
  | _, _ => 0
theorem read_of_take {ys : List Int} {v : Int} {k : Nat} (hs : size v = k) (hk : k ≠ 0) (h : ys.take k = form v) : read ys = (v, (k : Int)) := by
  have e : ys = form v ++ ys.drop k := by rw [← h, List.take_append_drop]
  rw [e, read_form (by omega), hs]
theorem val_form {v : Int} (h : size v ≠ 0) (rest : List Int) : val (size v).toNat (form v ++ rest) = v := by
  have hs := size_cases v
  by_cases h1 : v < 128
  · have e : form v = [v] := by simp [form, h1]
    rw [e, show size v = 1 from by omega]; rfl
  by_cases h2 : v < 2048
  · have e : form v = [192 + v / 64, 128 + v % 64] := by simp [form, h1, h2]
    rw [e, show size v = 2 from by omega]
    show (192 + v / 64 - 192) * 64 + (128 + v % 64) - 128 = v
    omega
  by_cases h3 : v < 65536
  · have e : form v = [224 + v / 4096, 128 + v / 64 % 64, 128 + v % 64] := by simp [form, h1, h2, h3]
    rw [e, show size v = 3 from by omega]
    show ((224 + v / 4096 - 224) * 64 + (128 + v / 64 % 64) - 128) * 64 + (128 + v % 64) - 128 = v
    omega
  · have e : form v = [240 + v / 262144, 128 + v / 4096 % 64, 128 + v / 64 % 64, 128 + v % 64] := by simp [form, h1, h2, h3]
    rw [e, show size v = 4 from by omega]
    show (((240 + v / 262144 - 240) * 64 + (128 + v / 4096 % 64) - 128) * 64 + (128 + v / 64 % 64) - 128) * 64 + (128 + v % 64) - 128 = v
    omega
theorem val_read {ys : List Int} (h : (read ys).2 ≠ 0) (hb : ∀ x ∈ ys, 0 ≤ x ∧ x ≤ 255) : val (read ys).2.toNat ys = (read ys).1 := by
  obtain ⟨e1, e2⟩ := form_read h hb
  have e : ys = form (read ys).1 ++ ys.drop (read ys).2.toNat := by rw [e1, List.take_append_drop]
  have := val_form (v := (read ys).1) (by omega) (ys.drop (read ys).2.toNat)
  rw [← e, e2] at this
  exact this
/-- What is read of bytes has these bytes. -/
theorem enc_dec : ∀ (n : Nat) (xs : List Int), xs.length ≤ n → (∀ x ∈ xs, 0 ≤ x ∧ x ≤ 255) → enc (dec xs).1 = xs.take (dec xs).2 ∧ ∀ x ∈ (dec xs).1, size x ≠ 0 := by
  intro n
  induction n with
  | zero => intro xs h _; obtain rfl : xs = [] := List.length_eq_zero_iff.1 (by omega); simp [dec_nil, enc_nil]
  | succ n ih =>
    intro xs h hb
    have hbd := read_bounds xs
    by_cases h0 : (read xs).2 = 0
    · rw [dec_stop h0]; simp [enc_nil]
    · obtain ⟨e1, e2⟩ := form_read h0 hb
      have := ih (xs.drop (read xs).2.toNat) (by simp; omega) (fun x hx => hb x (List.mem_of_mem_drop hx))
      rw [dec_step h0]
      simp only
      refine ⟨?_, ?_⟩
      · rw [show enc ((read xs).1 :: (dec (xs.drop (read xs).2.toNat)).1) = form (read xs).1 ++ enc (dec (xs.drop (read xs).2.toNat)).1 from rfl, this.1, e1, List.take_add]
      · intro x hx
        rcases List.mem_cons.1 hx with rfl | hx
        · omega
        · exact this.2 x hx
end Utf
end Go.Proofs.YtfcoebbblfcdoaaGreatDoor
