import Derived.Test.YtfcoebbblfcdoaaGreatDoorZ43
import Derived.Test.YtfcoebbblfcdoaaGreatDoorZ04
import Derived.Test.YtfcoebbblfcdoaaGreatDoorZ03
import Derived.Test.YtfcoebbblfcdoaaGreatDoorZ28
import Derived.Test.YtfcoebbblfcdoaaGreatDoorCards
import Derived.Test.YtfcoebbblfcdoaaGreatDoorTie
import Derived.Test.YtfcoebbblfcdoaaGreatDoorZ17
import Derived.WalkKit
import Derived.ProofKit
import Derived.OpenShut
import Derived.Deep.DeepHandedRow
import Derived.Lib.LaidTab
/- TopShown: from the bytes to the bytes. -/
namespace Go.Proofs.YtfcoebbblfcdoaaGreatDoor
open Go.RowKit
set_option linter.unusedVariables false
set_option maxHeartbeats 1600000
set_option maxRecDepth 100000
theorem scalar_wf {x : Int} (h : Utf.size x ≠ 0) : (Lit.int .i32 x).wf = true := by
 have := Utf.size_cases x
 exact WalkArith.wf_i32 (by omega)
theorem a_ok : ∀ x ∈ ([97] : List Int), Utf.size x ≠ 0 := by decide
theorem a_enc : Utf.enc [97] = [97] := by decide +kernel
theorem a_str : str [97] = ⟨#[97]⟩ := by decide +kernel
theorem enc_both (l : List Int) (n : Nat) (hl : l.length = n) (hw : ∀ x ∈ l, (Lit.int .i32 x).wf = true) (hn : n * 4 <= 140737488351232) :
  ∃ (B : List Int) (j E : Int), Bytes B /\
   (∀ (ao : Option Addr) (c : Nat) (w : World), Row .i32 w ao n c l -> Calls Tryz.prog 11 #[.slice ao n c] w fun e w' => ∃ a d, e = .returned (.tuple #[.slice a B.length d, .int .i64 j, .int .i64 E]) /\ Row .u8 w' a B.length d B /\ KO w w') /\
   (∀ (ao : Option Addr) (c : Nat) (w : World), Row .i32 w ao n c l -> Calls Tryz.prog 12 #[.slice ao n c] w fun e w' => ∃ a d, e = .returned (.tuple #[.slice a B.length d, .int .i64 j, .int .i64 E]) /\ Row .u8 w' a B.length d B /\ KO w w') := by
 rcases Utf.bad_or l with hok | ⟨j, hj, hbad, hfirst⟩
 ·refine ⟨Utf.enc l, 0, 0, Utf.enc_bytes hok, fun ao c w h => ?_, fun ao c w h => ?_⟩
  ·refine (encode_ok ao n c l w h hn hok).mono ?_
   rintro e w2 ⟨v, rfl, ho, hb⟩
   obtain ⟨a, d, rfl, hr⟩ := row_of_owns ho
   exact ⟨a, d, rfl, hr, hb⟩
  ·refine (rencode_ok ao n c l w h hn hok).mono ?_
   rintro e w2 ⟨v, rfl, ho, hb⟩
   obtain ⟨a, d, rfl, hr⟩ := row_of_owns ho
   exact ⟨a, d, rfl, hr, hb⟩
 ·refine ⟨[], j, 11, (by intro x hx; cases hx), fun ao c w h => ?_, fun ao c w h => ?_⟩
  ·refine (encode_bad ao n c l w h hn j (by omega) hbad hfirst).mono ?_
   rintro e w2 ⟨rfl, rfl⟩
   exact ⟨none, 0, rfl, row_nil _ _, KO.refl _⟩
  ·refine (rencode_bad ao n c l w h (fun x hx => bounds_i32 (hw x hx)) hn j (by omega) hbad hfirst).mono ?_
   rintro e w2 ⟨rfl, hb⟩
   exact ⟨none, 0, rfl, row_nil _ _, hb⟩
theorem TopShown_walk (w : World) (hm : Marks w) (a0 : Option Addr) (n0 c0 : Nat) (b : List Int) (h0 : Row .u8 w a0 n0 c0 b) (f0 : ∀ x ∈ b, (Lit.int .u8 x).wf = true) (b0 : n0 * 1 <= 140737488351232) (base : Int) (hbs : (Lit.int .i64 base).wf = true) :
  Calls Tryz.prog 3 #[.slice a0 n0 c0, .int .i64 base] w fun e w' => e = .returned (.bool true) /\ Below w.heap.size w w' := by
 have hby := Bytes.of_wf f0
 by_cases hbig : 300 < n0
 ·have hb1 : (300 : Int) < (n0 : Int) := by omega
  clear hm h0 f0 hby
  go_enter Tryz.func3, Tryz.ntmps3
  go_wp2
  go_ret
  exact ⟨rfl, Below.refl _ _⟩
 have hb1 : ¬ (300 : Int) < (n0 : Int) := by omega
 have hdl := Utf.dec_le b.length b (Nat.le_refl _)
 rw [h0.len] at hdl
 have HB := hide hby
 have H0 := hide h0
 by_cases hw : (Utf.dec b).2 = n0
 ·obtain ⟨D, hD⟩ : ∃ D, (Utf.dec b).1 = D := ⟨_, rfl⟩
  have hsc := (Utf.enc_dec b.length b (Nat.le_refl _) hby).2
  rw [hD] at hsc hdl
  have hDw : ∀ x ∈ D, (Lit.int .i32 x).wf = true := fun x hx => scalar_wf (hsc x hx)
  have HDC := hide (decode_yes a0 n0 c0 b w h0 hby hw (by omega))
  have HDR := hide (fun (W : World) (hk : KO w W) => rdecode_any a0 n0 c0 b W (h0.below hk) hby (by omega))
  rw [hD] at HDC HDR
  obtain ⟨nD, hnD⟩ : ∃ nD, D.length = nD := ⟨_, rfl⟩
  rw [hnD] at hdl HDC HDR
  obtain ⟨m, X, S, E, hTA⟩ := TA_some D base
  have HWE := hide hw
  have HSH := hide (fun (a : Option Addr) (c : Nat) (W : World) (hr : Row .i32 W a nD c D) => tshown_any a nD c D base W hr hDw (by omega) m X S E hTA)
  have HLN := hide (fun (a : Option Addr) (c : Nat) (W : World) (hr : Row .i32 W a nD c D) (hk : KO w W) => tline_any a nD c D base W hr hDw (hm.below hk) (by omega) m X S E hTA)
  by_cases hE : E = 0
  ·subst hE
   have hSA := TA_show hTA
   have hSw := TA_wf hTA hDw
   have hXn : X.length = nD := by rw [hSA.1, hnD]
   obtain ⟨nS, hnS⟩ : ∃ nS, S.length = nS := ⟨_, rfl⟩
   have hSl : nS <= 300 := by
    rcases hSA.2.2 with ⟨_, _, hS, _⟩ | ⟨_, _, h0⟩
    ·rw [<- hnS, hS, Mi.SW_len]
     have := Od.K_le X
     rw [Od.OD_len]
     omega
    ·cases h0
   have HS := hide (fun (a ax : Option Addr) (c cx : Nat) (W : World) (hr : Row .i32 W a nD c D) (hx : Row .i64 W ax nD cx X) (hk : KO w W) => show_any a ax nD nD c cx D X W hr hx hDw (by omega) (by omega) nD (by have := RR_le X; omega) (by omega) (hm.below hk) S 0 hSA.2.2)
   obtain ⟨B, j, EE, hBy, hEn, hRn⟩ := enc_both S nS hnS hSw (by omega)
   have HEN := hide hEn
   have HRN := hide hRn
   have HBy := hide hBy
   have HEA := hide (fun (W : World) => encode_ok (some ⟨W.heap.size, 0, none⟩) 1 1 [97] (W.alloc (.cells #[.int .i32 97] 21)) (row_lit .i32 W [97] 21 (by decide)) (by omega) a_ok)
   rw [a_enc] at HEA
   rw [hXn, hnS] at HSH
   rw [hXn] at HLN
   rw [hnS] at HS
   obtain ⟨nB, hnB⟩ : ∃ nB, B.length = nB := ⟨_, rfl⟩
   rw [hnB] at HEN HRN
   have HnD := hide hnD
   clear hm h0 f0 hby hw hD hsc hDw hnD hTA hSA hSw hXn hnS hBy hEn hRn hnB
   simp only [List.length_cons, List.length_nil] at HEA
   have hnn : ((0 : Int) != 0) = false := rfl
   have hmm : (m != m) = false := by simp
   have hEE : (EE == EE) = true := by simp
   go_enter Tryz.func3, Tryz.ntmps3
   go_wp2_with fail
   refine HDC.out.mono ?_
   rintro e w1 ⟨v1, rfl, ho1, hk1⟩
   obtain ⟨a1, c1, rfl, hr1⟩ := row_of_owns ho1
   have K1 := hide (show KO w w1 from hk1)
   have R1 := hide hr1
   have HDR1 := hide (HDR.out w1 hk1)
   clear ho1 hk1 hr1 HDC HDR
   go_wp2_with fail
   refine HDR1.out.mono ?_
   rintro e w2 ⟨hor, hk2⟩
   rcases hor with ⟨hlt, _⟩ | ⟨_, v2, rfl, ho2⟩
   ·have := HWE.out; omega
   obtain ⟨a2, c2, rfl, hr2⟩ := row_of_owns ho2
   have K2 := hide (KO.on K1.out hk2)
   have R12 := hide (R1.out.below hk2)
   have R2 := hide hr2
   have HI1 := hide (runes_yes a1 a2 nD c1 c2 D w2 (R1.out.below hk2) hr2)
   clear ho2 hk2 hr2 HDR1 R1
   go_wp2_with fail
   refine HI1.out.mono ?_
   rintro e w3 ⟨rfl, hd3⟩
   have k23 : KO w2 w3 := below_of_drewN hd3
   have K3 := hide (KO.on K2.out k23)
   have R13 := hide (R12.out.below k23)
   have R23 := hide (R2.out.below k23)
   have HSH3 := hide (HSH.out a2 c2 w3 R23.out)
   clear hd3 k23 HI1 R12 R2 HSH
   go_wp2_with fail
   refine HSH3.out.mono ?_
   rintro e w4 ⟨a4, c4, b4, d4, rfl, hx4, hs4, hk4⟩
   have K4 := hide (KO.on K3.out hk4)
   have R14 := hide (R13.out.below hk4)
   have X4 := hide hx4
   have S4 := hide hs4
   have HLN4 := hide (HLN.out a1 c1 w4 R14.out (KO.on K3.out hk4))
   clear hx4 hs4 hk4 HSH3 HLN R13 R23
   go_wp2_with fail
   refine HLN4.out.mono ?_
   rintro e w5 ⟨a5, c5, rfl, hx5, hk5⟩
   have K5 := hide (KO.on K4.out hk5)
   have R15 := hide (R14.out.below hk5)
   have X45 := hide (X4.out.below hk5)
   have S45 := hide (S4.out.below hk5)
   have X5 := hide hx5
   have HI2 := hide (ints_yes a5 a4 nD c5 c4 X w5 hx5 (X4.out.below hk5))
   clear hx5 hk5 HLN4 R14 X4 S4
   go_wp2_with fail
   refine HI2.out.mono ?_
   rintro e w6 ⟨rfl, hd6⟩
   have k56 : KO w5 w6 := below_of_drewN hd6
   have K6 := hide (KO.on K5.out k56)
   have S46 := hide (S45.out.below k56)
   have HS6 := hide (HS.out a1 a5 c1 c5 w6 (R15.out.below k56) (X5.out.below k56) (KO.on K5.out k56))
   clear hd6 k56 HI2 HS R15 X45 S45 X5
   go_wp2_with fail
   refine HS6.out.mono ?_
   rintro e w7 ⟨a7, c7, rfl, hr7, hk7⟩
   have K7 := hide (KO.on K6.out hk7)
   have S7 := hide hr7
   have S47 := hide (S46.out.below hk7)
   have HI3 := hide (runes_yes a7 b4 nS c7 d4 S w7 hr7 (S46.out.below hk7))
   clear hr7 hk7 HS6 S46
   go_wp2_with fail
   refine HI3.out.mono ?_
   rintro e w8 ⟨rfl, hd8⟩
   have k78 : KO w7 w8 := below_of_drewN hd8
   have K8 := hide (KO.on K7.out k78)
   have S48 := hide (S47.out.below k78)
   have HEN8 := hide (HEN.out a7 c7 w8 (S7.out.below k78))
   clear hd8 k78 HI3 S47 S7 HEN
   go_wp2_with fail
   refine HEN8.out.mono ?_
   rintro e w9 ⟨a9, c9, rfl, hr9, hk9⟩
   have K9 := hide (KO.on K8.out hk9)
   have B9 := hide hr9
   have HRN9 := hide (HRN.out b4 d4 w9 (S48.out.below hk9))
   clear hr9 hk9 HEN8 HRN S48
   go_wp2_with fail
   refine HRN9.out.mono ?_
   rintro e wA ⟨aA, cA, rfl, hrA, hkA⟩
   have KA := hide (KO.on K9.out hkA)
   have B9A := hide (B9.out.below hkA)
   have BA := hide hrA
   have HEA1 := hide (HEA.out wA)
   clear hrA hkA HRN9 HEA B9
   go_wp2_with fail
   refine HEA1.out.mono ?_
   rintro e wC ⟨vC, rfl, hoC, hkC⟩
   obtain ⟨aC, cC, rfl, hrC⟩ := row_of_owns hoC
   have kAC : KO wA wC := KO.on (KO.alloc (KO.refl wA) _) hkC
   have KC := hide (KO.on KA.out kAC)
   have q1 := run_str wC a9 nB c9 B (B9A.out.below kAC) HBy.out
   have q2 := run_str wC aA nB cA B (BA.out.below kAC) HBy.out
   have q3 := run_str wC aC 1 cC [97] hrC (by intro x hx; simp at hx; omega)
   rw [a_str] at q3
   clear hoC hkC hrC kAC HEA1 B9A BA
   generalize str B = sB at *
   go_wp2
   go_ret
   exact ⟨rfl, KC.out⟩
  ·obtain ⟨hm0, hX0, hS0⟩ := TA_no hTA hE
   subst hm0 hX0 hS0
   have hEb : (E != 0) = true := bne_iff_ne.2 hE
   have hEE : (E != E) = false := by simp
   clear h0 f0 hby hw hD hsc hDw hnD hTA hm
   simp only [List.length_nil] at HSH HLN
   go_enter Tryz.func3, Tryz.ntmps3
   go_wp2_with fail
   refine HDC.out.mono ?_
   rintro e w1 ⟨v1, rfl, ho1, hk1⟩
   obtain ⟨a1, c1, rfl, hr1⟩ := row_of_owns ho1
   have K1 := hide (show KO w w1 from hk1)
   have R1 := hide hr1
   have HDR1 := hide (HDR.out w1 hk1)
   clear ho1 hk1 hr1 HDC HDR
   go_wp2_with fail
   refine HDR1.out.mono ?_
   rintro e w2 ⟨hor, hk2⟩
   rcases hor with ⟨hlt, _⟩ | ⟨_, v2, rfl, ho2⟩
   ·have := HWE.out; omega
   obtain ⟨a2, c2, rfl, hr2⟩ := row_of_owns ho2
   have K2 := hide (KO.on K1.out hk2)
   have R12 := hide (R1.out.below hk2)
   have R2 := hide hr2
   have HI1 := hide (runes_yes a1 a2 nD c1 c2 D w2 (R1.out.below hk2) hr2)
   clear ho2 hk2 hr2 HDR1 R1
   go_wp2_with fail
   refine HI1.out.mono ?_
   rintro e w3 ⟨rfl, hd3⟩
   have k23 : KO w2 w3 := below_of_drewN hd3
   have K3 := hide (KO.on K2.out k23)
   have R13 := hide (R12.out.below k23)
   have R23 := hide (R2.out.below k23)
   have HSH3 := hide (HSH.out a2 c2 w3 R23.out)
   clear hd3 k23 HI1 R12 R2 HSH
   go_wp2_with fail
   refine HSH3.out.mono ?_
   rintro e w4 ⟨a4, c4, b4, d4, rfl, hx4, hs4, hk4⟩
   have K4 := hide (KO.on K3.out hk4)
   have R14 := hide (R13.out.below hk4)
   have X4 := hide hx4
   have HLN4 := hide (HLN.out a1 c1 w4 R14.out (KO.on K3.out hk4))
   clear hx4 hs4 hk4 HSH3 HLN R13 R23
   go_wp2_with fail
   refine HLN4.out.mono ?_
   rintro e w5 ⟨a5, c5, rfl, hx5, hk5⟩
   have K5 := hide (KO.on K4.out hk5)
   have HI2 := hide (ints_yes a5 a4 0 c5 c4 [] w5 hx5 (X4.out.below hk5))
   clear hx5 hk5 HLN4 R14 X4
   go_wp2_with fail
   refine HI2.out.mono ?_
   rintro e w6 ⟨rfl, hd6⟩
   have K6 := hide (KO.on K5.out (below_of_drewN hd6))
   clear hd6 HI2
   go_wp2
   go_ret
   exact ⟨rfl, K6.out⟩
 ·have hlt : (Utf.dec b).2 < n0 := by omega
  have HDC := hide (decode_no a0 n0 c0 b w h0 hby hlt)
  have HDR := hide (rdecode_any a0 n0 c0 b w h0 hby (by omega))
  obtain ⟨x, hx⟩ : ∃ x : Nat, (Utf.dec b).2 = x := ⟨_, rfl⟩
  rw [hx] at HDC HDR hw hlt
  have hxx : ((x : Int) != (x : Int)) = false := by simp
  clear hm h0 f0 hby hx
  go_enter Tryz.func3, Tryz.ntmps3
  go_wp2_with fail
  refine HDC.out.mono ?_
  rintro e w1 ⟨rfl, rfl⟩
  go_wp2_with fail
  refine HDR.out.mono ?_
  rintro e w2 ⟨hor, hk2⟩
  rcases hor with ⟨_, rfl⟩ | ⟨h', _⟩
  rotate_left
  ·exact absurd h' hw
  have K2 := hide (show KO w w2 from hk2)
  have HI1 := hide (runes_yes none none 0 0 0 [] w2 (row_nil _ _) (row_nil _ _))
  clear hk2 HDC HDR
  go_wp2_with fail
  refine HI1.out.mono ?_
  rintro e w3 ⟨rfl, hd3⟩
  have K3 := hide (KO.on K2.out (below_of_drewN hd3))
  clear hd3 HI1
  go_wp2
  go_ret
  exact ⟨rfl, K3.out⟩
end Go.Proofs.YtfcoebbblfcdoaaGreatDoor

/- The two listed tables as the rows list them, and a world in which they lie so. -/
namespace Go.Proofs.YtfcoebbblfcdoaaGreatDoor
open Go.ChangeShapes Go.WideShapes Go.ChangeAt Go.RowKit
def pairData {H : Type} (l : List (Int × Int)) : DataW H := .agg (l.map fun p => .agg [.lit (.int .i32 p.1), .lit (.int .i32 p.2)])
theorem cells_of_pairs {H : Type} {enc : TypeId × Value -> H} {P : Program} {w : World} {base : Nat} {sp : Nat -> Bool} {held : Bool} {fuel : Nat} {t e i : TypeId} {n : Nat} {cs : List Value} {l : List (Int × Int)} {p : List MemPlace}
  (ht : P.underlying t = some (.array n e)) (he : P.underlying e = some (.array 2 i)) (hi : P.underlying i = some (.int .i32)) (hci : P.cellsOf i = 1) (hce : P.cellsOf e = 2) (hct : P.cellsOf t = n * 2)
  (h : DataW.trod enc P w base sp held fuel t cs = some (pairData l, p)) : cs = (Ucd.flat2 l).map (Value.int .i32) := by
 cases fuel with
 | zero => simp [DataW.trod] at h
 | succ fuel =>
  simp only [DataW.trod, ht, hce, hct] at h
  split at h
  ·rename_i hl
   obtain ⟨xs, hm, hx⟩ := Option.map_eq_some_iff.1 h
   have hxs : xs.map (·.1) = l.map fun p => (DataW.agg [.lit (.int .i32 p.1), .lit (.int .i32 p.2)] : DataW H) := by
    have := congrArg Prod.fst hx
    simpa [pairData] using this
   have hxl : xs.length = n := by simpa using Lib.mapM_length hm
   have hzl : l.length = n := by
    have := congrArg List.length hxs
    simp at this
    omega
   have hcl : cs.length = n * 2 := hl
   have key : ∀ k, k < n -> (cs.drop (k * 2)).take 2 = [.int .i32 (l.getD k (0, 0)).1, .int .i32 (l.getD k (0, 0)).2] := by
    intro k hk
    obtain ⟨b, hb, hf⟩ := Lib.mapM_at hm k k (by simp [hk])
    have h2 : (xs.map (·.1))[k]? = some b.1 := by simp [hb]
    rw [hxs] at h2
    have hkl : k < l.length := by omega
    have e0 : l.getD k (0, 0) = l[k] := by simp [List.getD, List.getElem?_eq_getElem hkl]
    simp only [List.getElem?_map, List.getElem?_eq_getElem hkl, Option.map_some, Option.some.injEq] at h2
    obtain ⟨b1, b2⟩ := b
    simp only at h2
    subst h2
    have := Lib.cells_of_tab (zs := [l[k].1, l[k].2]) he hi hci hce hf
    rw [e0]
    exact this
   apply List.ext_getElem?
   intro j
   by_cases hj : j < n * 2
   ·have hk : j / 2 < n := by omega
    have e := key (j / 2) hk
    obtain ⟨q0, q1⟩ := pair_at l (j / 2) (by omega)
    have e1 : ∀ m, m < 2 -> cs[j / 2 * 2 + m]? = ([.int .i32 (l.getD (j / 2) (0, 0)).1, .int .i32 (l.getD (j / 2) (0, 0)).2] : List Value)[m]? := fun m hm => by
     rw [<- e, List.getElem?_take_of_lt hm, List.getElem?_drop]
    rcases Nat.mod_two_eq_zero_or_one j with h0 | h0
    ·have ej : j = j / 2 * 2 + 0 := by omega
     rw [ej, e1 0 (by omega), List.getElem?_map, Nat.add_zero]
     rw [q0]
     rfl
    ·have ej : j = j / 2 * 2 + 1 := by omega
     rw [ej, e1 1 (by omega), List.getElem?_map]
     rw [q1]
     rfl
   ·have hfl : ((Ucd.flat2 l).map (Value.int .i32)).length = n * 2 := by
     have := pair_size l
     simpa [pairCells, hzl] using this
    rw [List.getElem?_eq_none (by omega), List.getElem?_eq_none (by omega)]
  ·cases h
theorem var_of {P : Program} {W : World} {name : String} {g : Nat} {cs : Array Value} (hg : P.globalNamed name = some g) (hv : W.var? P name = some cs) (i : Nat) : W.cell? ⟨g, i, none⟩ = cs[i]? := World.var?_cell hg hv i
theorem gB : Tryz.prog.globalNamed "colophon/ucd.brackets" = some 1 := by kernel_rfl
theorem gM : Tryz.prog.globalNamed "colophon/ucd.mirrored" = some 0 := by kernel_rfl
theorem tB : (Tryz.prog.globals[1]?).map (·.type) = some 187 := by kernel_rfl
theorem tM : (Tryz.prog.globals[0]?).map (·.type) = some 169 := by kernel_rfl
theorem cB : Tryz.prog.cellsOf 187 = 21 * 2 := by kernel_rfl
theorem cM : Tryz.prog.cellsOf 169 = 10 * 2 := by kernel_rfl
theorem cP : Tryz.prog.cellsOf 168 = 2 := by kernel_rfl
theorem cI : Tryz.prog.cellsOf 21 = 1 := by kernel_rfl
theorem tab_of {W : World} (h : laidMetH Tryz.prog [("colophon/ucd.brackets", Rows.laid_colophon_ucd_brackets), ("colophon/ucd.mirrored", Rows.laid_colophon_ucd_mirrored)] W) : Marks W := by
 have h' : laidMet Tryz.prog [("colophon/ucd.brackets", Rows.laid_colophon_ucd_brackets), ("colophon/ucd.mirrored", Rows.laid_colophon_ucd_mirrored)] W := h
 obtain ⟨ps, ⟨g, t, cs, fuel, p, q, hg, ht, hvar, hd, ⟨g2, t2, cs2, fuel2, p2, q2, hg2, ht2, hvar2, hd2, _, _⟩, _⟩, _⟩ := h'
 obtain rfl := Option.some.inj (gB.symm.trans hg)
 obtain rfl := Option.some.inj (tB.symm.trans ht)
 obtain rfl := Option.some.inj (gM.symm.trans hg2)
 obtain rfl := Option.some.inj (tM.symm.trans ht2)
 have e1 := cells_of_pairs (l := Ucd.brackets) Tryz.underlying187 Tryz.underlying168 Tryz.underlying21 cI cP cB hd
 have e2 := cells_of_pairs (l := Ucd.mirrored) Tryz.underlying169 Tryz.underlying168 Tryz.underlying21 cI cP cM hd2
 refine ⟨fun i hi => ?_, fun i hi => ?_⟩
 ·rw [var_of gM hvar2 i, pairCells, <- e2, Array.toArray_toList]
 ·rw [var_of gB hvar i, pairCells, <- e1, Array.toArray_toList]
def laidOf (w : World) : World :=
 { w with heap := (w.heap.modify 0 fun
   | .cells _ t frozen => .cells (pairCells Ucd.mirrored) t frozen
   | o => o).modify 1 fun
   | .cells _ t frozen => .cells (pairCells Ucd.brackets) t frozen
   | o => o }
end Go.Proofs.YtfcoebbblfcdoaaGreatDoor
