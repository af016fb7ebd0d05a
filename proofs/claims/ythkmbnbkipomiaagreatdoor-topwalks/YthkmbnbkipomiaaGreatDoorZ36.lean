import Derived.Test.YthkmbnbkipomiaaGreatDoorZ02
import Derived.Test.YthkmbnbkipomiaaGreatDoorZ33
import Derived.Test.YthkmbnbkipomiaaGreatDoorZ35
import Derived.Test.YthkmbnbkipomiaaGreatDoorCards
import Derived.Test.YthkmbnbkipomiaaGreatDoorTie
import Derived.Test.YthkmbnbkipomiaaGreatDoorZ18
import Derived.WalkKit
import Derived.ProofKit
import Derived.OpenShut
import Derived.Deep.DeepHandedRow
import Derived.Lib.LaidTab
/- Plain mathematics: forms are read as they were written, and nothing else is. -/
namespace Go.Proofs.YthkmbnbkipomiaaGreatDoor
namespace Utf
theorem first_eq {c r s : Int} (h : (c < 128 ∧ r = c ∧ s = 1) ∨ (192 ≤ c ∧ c < 224 ∧ r = c - 192 ∧ s = 2) ∨ (224 ≤ c ∧ c < 240 ∧ r = c - 224 ∧ s = 3) ∨ (240 ≤ c ∧ c < 248 ∧ r = c - 240 ∧ s = 4)) : first c = (r, s) := by
  unfold first
  repeat' split
  all_goals simp only [Prod.mk.injEq]
  all_goals omega
theorem read_form {v : Int} (h : size v ≠ 0) (rest : List Int) : read (form v ++ rest) = (v, size v) := by
  have hs := size_cases v
  by_cases h1 : v < 128
  · have e : form v = [v] := by simp [form, h1]
    have z : size v = 1 := by omega
    have hf : first v = (v, 1) := first_eq (by omega)
    rw [e, z]
    have : read (v :: rest) = (v, (first v).2) := read_some (by rw [hf]; simp; omega) (by rw [hf]; simp [conts]) (by rw [hf]; exact z)
    rw [hf] at this
    exact this
  by_cases h2 : v < 2048
  · have e : form v = [192 + v / 64, 128 + v % 64] := by simp [form, h1, h2]
    have z : size v = 2 := by omega
    have hf : first (192 + v / 64) = (v / 64, 2) := first_eq (by omega)
    rw [e, z]
    have : read ((192 + v / 64) :: (128 + v % 64) :: rest) = (v, (first (192 + v / 64)).2) := read_some (by rw [hf]; simp; omega)
      (by rw [hf]; simp only [Int.toNat, List.take, conts]; rw [if_neg (by omega)]; congr 1; omega) (by rw [hf]; exact z)
    rw [hf] at this
    exact this
  by_cases h3 : v < 65536
  · have e : form v = [224 + v / 4096, 128 + v / 64 % 64, 128 + v % 64] := by simp [form, h1, h2, h3]
    have z : size v = 3 := by omega
    have hf : first (224 + v / 4096) = (v / 4096, 3) := first_eq (by omega)
    rw [e, z]
    have : read ((224 + v / 4096) :: (128 + v / 64 % 64) :: (128 + v % 64) :: rest) = (v, (first (224 + v / 4096)).2) := read_some (by rw [hf]; simp; omega)
      (by rw [hf]; simp only [Int.toNat, List.take, conts]; rw [if_neg (by omega), if_neg (by omega)]; congr 1; omega) (by rw [hf]; exact z)
    rw [hf] at this
    exact this
  · have e : form v = [240 + v / 262144, 128 + v / 4096 % 64, 128 + v / 64 % 64, 128 + v % 64] := by simp [form, h1, h2, h3]
    have z : size v = 4 := by omega
    have hf : first (240 + v / 262144) = (v / 262144, 4) := first_eq (by omega)
    rw [e, z]
    have : read ((240 + v / 262144) :: (128 + v / 4096 % 64) :: (128 + v / 64 % 64) :: (128 + v % 64) :: rest) = (v, (first (240 + v / 262144)).2) := read_some (by rw [hf]; simp; omega)
      (by rw [hf]; simp only [Int.toNat, List.take, conts]; rw [if_neg (by omega), if_neg (by omega), if_neg (by omega)]; congr 1; omega) (by rw [hf]; exact z)
    rw [hf] at this
    exact this
theorem first_inv {c : Int} : (c < 128 ∧ first c = (c, 1)) ∨ (192 ≤ c ∧ c < 224 ∧ first c = (c - 192, 2)) ∨ (224 ≤ c ∧ c < 240 ∧ first c = (c - 224, 3)) ∨ (240 ≤ c ∧ c < 248 ∧ first c = (c - 240, 4)) ∨ (first c).2 = 0 := by
  unfold first
  repeat' split
  all_goals simp
  all_goals omega
/-- What is read is a form that stands there. -/
theorem form_read {ys : List Int} (h : (read ys).2 ≠ 0) (hb : ∀ x ∈ ys, 0 ≤ x ∧ x ≤ 255) : form (read ys).1 = ys.take (read ys).2.toNat ∧ size (read ys).1 = (read ys).2 := by
  have hz := (read_bounds ys).2.2.2
  rw [if_neg h] at hz
  refine ⟨?_, hz⟩
  cases ys with
  | nil => simp [read] at h
  | cons c cs =>
    by_cases h0 : (first c).2 = 0 ∨ (cs.length : Int) + 1 < (first c).2
    · rw [read_short h0] at h; simp at h
    cases hc : conts (first c).1 (cs.take ((first c).2.toNat - 1)) with
    | none => rw [read_none hc] at h; simp at h
    | some v =>
      by_cases hs : size v = (first c).2
      · have hr := read_some h0 hc hs
        rw [hr] at h ⊢
        simp only
        have hv := size_cases v
        have hc0 := hb c (by simp)
        rcases first_inv (c := c) with ⟨g, hf⟩ | ⟨g, g', hf⟩ | ⟨g, g', hf⟩ | ⟨g, g', hf⟩ | hf
        · rw [hf] at hc hs ⊢
          simp [conts] at hc
          subst hc
          simp [form, g]
        · rw [hf] at hc hs h0 ⊢
          simp only at hs h0
          match cs, h0 with
          | [], h0 => simp at h0
          | c1 :: cs, _ =>
            simp only [Int.toNat, List.take, conts] at hc
            split at hc
            · simp at hc
            simp only [Option.some.injEq] at hc
            have e : form v = [192 + v / 64, 128 + v % 64] := by simp only [form]; rw [if_neg (by omega), if_pos (by omega)]
            rw [e]
            simp only [Int.toNat, List.take]
            rw [show 192 + v / 64 = c from by omega, show 128 + v % 64 = c1 from by omega]
        · rw [hf] at hc hs h0 ⊢
          simp only at hs h0
          match cs, h0 with
          | [], h0 => simp at h0
          | [_], h0 => simp at h0
          | c1 :: c2 :: cs, _ =>
            simp only [Int.toNat, List.take, conts] at hc
            split at hc
            · simp at hc
            split at hc
            · simp at hc
            simp only [Option.some.injEq] at hc
            have e : form v = [224 + v / 4096, 128 + v / 64 % 64, 128 + v % 64] := by simp only [form]; rw [if_neg (by omega), if_neg (by omega), if_pos (by omega)]
            rw [e]
            simp only [Int.toNat, List.take]
            rw [show 224 + v / 4096 = c from by omega, show 128 + v / 64 % 64 = c1 from by omega, show 128 + v % 64 = c2 from by omega]
        · rw [hf] at hc hs h0 ⊢
          simp only at hs h0
          match cs, h0 with
          | [], h0 => simp at h0
          | [_], h0 => simp at h0
          | [_, _], h0 => simp at h0
          | c1 :: c2 :: c3 :: cs, _ =>
            simp only [Int.toNat, List.take, conts] at hc
            split at hc
            · simp at hc
            split at hc
            · simp at hc
            split at hc
            · simp at hc
            simp only [Option.some.injEq] at hc
            have e : form v = [240 + v / 262144, 128 + v / 4096 % 64, 128 + v / 64 % 64, 128 + v % 64] := by simp only [form]; rw [if_neg (by omega), if_neg (by omega), if_neg (by omega)]
            rw [e]
            simp only [Int.toNat, List.take]
            rw [show 240 + v / 262144 = c from by omega, show 128 + v / 4096 % 64 = c1 from by omega, show 128 + v / 64 % 64 = c2 from by omega, show 128 + v % 64 = c3 from by omega]
        · exact absurd hf (by omega)
      · rw [read_odd hc hs] at h; simp at h
/-- The number that so many bytes would be. -/
def val : Nat → List Int → Int
  | 1, x0 :: _ => x0
  | 2, x0 :: x1 :: _ => (x0 - 192) * 64 + x1 - 128
  | 3, x0 :: x1 :: x2 :: _ => ((x0 - 224) * 64 + x1 - 128) * 64 + x2 - 128
  | 4, x0 :: x1 :: x2 :: x3 :: _ => (((x0 - 240) * 64 + x1 - 128) * 64 + x2 - 128) * 64 + x3 - 128
  | _, _ => 0
theorem read_of_take {ys : List Int} {v : Int} {k : Nat} (hs : size v = k) (hk : k ≠ 0) (h : ys.take k = form v) : read ys = (v, (k : Int)) := by
  have e : ys = form v ++ ys.drop k := by rw [← h, List.take_append_drop]
  rw [e, read_form (by omega), hs]
theorem val_form {v : Int} (h : size v ≠ 0) (rest : List Int) : val (size v).toNat (form v ++ rest) = v := by
  have hs := size_cases v
  by_cases h1 : v < 128
  · have e : form v = [v] := by simp [form, h1]
    rw [e, show size v = 1 from by omega]; rfl
  by_cases h2 : v < 2048
  · have e : form v = [192 + v / 64, 128 + v % 64] := by simp [form, h1, h2]
    rw [e, show size v = 2 from by omega]
    show (192 + v / 64 - 192) * 64 + (128 + v % 64) - 128 = v
    omega
  by_cases h3 : v < 65536
  · have e : form v = [224 + v / 4096, 128 + v / 64 % 64, 128 + v % 64] := by simp [form, h1, h2, h3]
    rw [e, show size v = 3 from by omega]
    show ((224 + v / 4096 - 224) * 64 + (128 + v / 64 % 64) - 128) * 64 + (128 + v % 64) - 128 = v
    omega
  · have e : form v = [240 + v / 262144, 128 + v / 4096 % 64, 128 + v / 64 % 64, 128 + v % 64] := by simp [form, h1, h2, h3]
    rw [e, show size v = 4 from by omega]
    show (((240 + v / 262144 - 240) * 64 + (128 + v / 4096 % 64) - 128) * 64 + (128 + v / 64 % 64) - 128) * 64 + (128 + v % 64) - 128 = v
    omega
theorem val_read {ys : List Int} (h : (read ys).2 ≠ 0) (hb : ∀ x ∈ ys, 0 ≤ x ∧ x ≤ 255) : val (read ys).2.toNat ys = (read ys).1 := by
  obtain ⟨e1, e2⟩ := form_read h hb
  have e : ys = form (read ys).1 ++ ys.drop (read ys).2.toNat := by rw [e1, List.take_append_drop]
  have := val_form (v := (read ys).1) (by omega) (ys.drop (read ys).2.toNat)
  rw [← e, e2] at this
  exact this
/-- The bytes of scalar values are read as these. -/
theorem dec_enc (l : List Int) (h : ∀ x ∈ l, size x ≠ 0) : dec (enc l) = (l, (enc l).length) := by
  induction l with
  | nil => rfl
  | cons v l ih =>
    have hv := h v (by simp)
    have e : enc (v :: l) = form v ++ enc l := rfl
    have hr := read_form hv (enc l)
    have hl := form_length hv
    have hd : (form v ++ enc l).drop (size v).toNat = enc l := by
      rw [show (size v).toNat = (form v).length from by omega, List.drop_left]
    rw [e, dec_step (by rw [hr]; exact hv), hr]
    simp only
    rw [hd, ih (fun x hx => h x (by simp [hx]))]
    simp only [List.length_append]
    rw [show (size v).toNat = (form v).length from by omega]
/-- What is read of bytes has these bytes. -/
theorem enc_dec : ∀ (n : Nat) (xs : List Int), xs.length ≤ n → (∀ x ∈ xs, 0 ≤ x ∧ x ≤ 255) → enc (dec xs).1 = xs.take (dec xs).2 ∧ ∀ x ∈ (dec xs).1, size x ≠ 0 := by
  intro n
  induction n with
  | zero => intro xs h _; obtain rfl : xs = [] := List.length_eq_zero_iff.1 (by omega); simp [dec_nil, enc_nil]
  | succ n ih =>
    intro xs h hb
    have hbd := read_bounds xs
    by_cases h0 : (read xs).2 = 0
    · rw [dec_stop h0]; simp [enc_nil]
    · obtain ⟨e1, e2⟩ := form_read h0 hb
      have := ih (xs.drop (read xs).2.toNat) (by simp; omega) (fun x hx => hb x (List.mem_of_mem_drop hx))
      rw [dec_step h0]
      simp only
      refine ⟨?_, ?_⟩
      · rw [show enc ((read xs).1 :: (dec (xs.drop (read xs).2.toNat)).1) = form (read xs).1 ++ enc (dec (xs.drop (read xs).2.toNat)).1 from rfl, this.1, e1, List.take_add]
      · intro x hx
        rcases List.mem_cons.1 hx with rfl | hx
        · omega
        · exact this.2 x hx
end Utf
end Go.Proofs.YthkmbnbkipomiaaGreatDoor

/- TopWalks: a walk through a line is what is shown of it, from the bytes on. -/
namespace Go.Proofs.YthkmbnbkipomiaaGreatDoor
open Go.RowKit
set_option linter.unusedVariables false
set_option maxHeartbeats 1600000
set_option maxRecDepth 100000
theorem scalar_wf {x : Int} (h : Utf.size x ≠ 0) : (Lit.int .i32 x).wf = true := by
  have := Utf.size_cases x
  exact WalkArith.wf_i32 (by omega)
theorem leftmost_any (Z : List (Int × Int)) (B : Nat) (hB : B ≤ 4503599627370496) (hZ : Wz B Z) (ao : Option Addr) (n cap : Nat) (w : World) (h : ZR w ao n cap Z) (p : Nat) (hp : Spt.OF Z 0 1 = ((p : Int), 0)) :
    Calls Tryz.prog 8 #[.slice ao n cap] w fun e w' => e = .returned (.tuple #[.int .i64 (p : Int), .int .i64 0]) ∧ KO w w' := by
  have HO := hide (offset_any Z 0 1 B hB hZ (by decide) (by decide) ao n cap w h)
  rw [Fl.fb_zero, Fl.fb_one, hp] at HO
  clear hp hZ h
  go_enter Tryz.func8, Tryz.ntmps8
  go_wp2_with fail
  refine HO.out.mono ?_
  rintro e w1 ⟨rfl, hk1⟩
  have K1 := hide hk1
  clear hk1 HO
  go_wp2
  go_ret2
  exact ⟨rfl, K1.out⟩
theorem TopWalks_walk (w : World) (hm : Marks w) (a0 : Option Addr) (n0 c0 : Nat) (b : List Int) (h0 : Row .u8 w a0 n0 c0 b) (f0 : ∀ x ∈ b, (Lit.int .u8 x).wf = true) (b0 : n0 * 1 ≤ 140737488351232) (base : Int) (hbs : (Lit.int .i64 base).wf = true) :
    Calls Tryz.prog 3 #[.slice a0 n0 c0, .int .i64 base] w fun e w' => e = .returned (.bool true) ∧ Below w.heap.size w w' := by
  have hby := Bytes.of_wf f0
  by_cases hbig : 300 < n0
  · have hb1 : (300 : Int) < (n0 : Int) := by omega
    clear hm h0 f0 hby
    go_enter Tryz.func3, Tryz.ntmps3
    go_wp2
    go_ret
    exact ⟨rfl, Below.refl _ _⟩
  have hb1 : ¬ (300 : Int) < (n0 : Int) := by omega
  have hdl := Utf.dec_le b.length b (Nat.le_refl _)
  rw [h0.len] at hdl
  by_cases hw : (Utf.dec b).2 = n0
  · obtain ⟨D, hD⟩ : ∃ D, (Utf.dec b).1 = D := ⟨_, rfl⟩
    have hsc := (Utf.enc_dec b.length b (Nat.le_refl _) hby).2
    rw [hD] at hsc hdl
    have hDw : ∀ x ∈ D, (Lit.int .i32 x).wf = true := fun x hx => scalar_wf (hsc x hx)
    have HDC := hide (decode_yes a0 n0 c0 b w h0 hby hw (by omega))
    rw [hD] at HDC
    obtain ⟨nD, hnD⟩ : ∃ nD, D.length = nD := ⟨_, rfl⟩
    rw [hnD] at hdl HDC
    obtain ⟨m, X, S, E, hTA⟩ := TA_some D base
    have HLN := hide (fun (a : Option Addr) (c : Nat) (W : World) (hr : Row .i32 W a nD c D) (hk : KO w W) => tline_any a nD c D base W hr hDw (hm.below hk) (by omega) m X S E hTA)
    by_cases hE : E = 0
    · subst hE
      have hSA := TA_show hTA
      have hm01 : m = 0 ∨ m = 1 := by
        obtain ⟨L, hPA, _⟩ := hTA
        exact (top_facts hPA).two
      have hXn : X.length = nD := by rw [hSA.1, hnD]
      have hSeq : S = Mi.SW D X := by
        rcases hSA.2.2 with ⟨_, _, hS, _⟩ | ⟨_, _, h0⟩
        · exact hS
        · cases h0
      obtain ⟨nS, hnS⟩ : ∃ nS, S.length = nS := ⟨_, rfl⟩
      have hSl : nS ≤ 300 := by
        rw [← hnS, hSeq, Mi.SW_len]
        have := Od.K_le X
        rw [Od.OD_len]
        omega
      have HS := hide (fun (a ax : Option Addr) (c cx : Nat) (W : World) (hr : Row .i32 W a nD c D) (hx : Row .i64 W ax nD cx X) (hk : KO w W) => show_any a ax nD nD c cx D X W hr hx hDw (by omega) (by omega) nD (by have := RR_le X; omega) (by omega) (hm.below hk) S 0 hSA.2.2)
      obtain ⟨P, K, hTW⟩ := Spt.tw (D := D) (nS := nS) hm01 hSA.2.1 hXn (by rw [← hSeq]; exact hnS)
      rw [← hSeq] at hTW
      have hSP : SPA X m (Spt.SP (Spt.al X m)) 0 := .inl ⟨⟨hm01, hSA.2.1⟩, rfl, rfl⟩
      have hwz := SPA_wz hSP 1000 (by omega)
      have hZl : (Spt.SP (Spt.al X m)).length = nD + 1 := by rw [Spt.SP_len, Spt.al_len, hXn]
      have HSP := hide (fun (ax : Option Addr) (cx : Nat) (W : World) (hx : Row .i64 W ax nD cx X) => spots_any ax nD cx X m W hx (by omega) _ 0 hSP)
      obtain ⟨Z, hZ⟩ : ∃ Z, Spt.SP (Spt.al X m) = Z := ⟨_, rfl⟩
      rw [hZ] at hTW hwz hZl HSP
      rw [hZl] at HSP
      have HLM := hide (fun (x : Option Addr) (c : Nat) (W : World) (h : ZR W x (nD + 1) c Z) => leftmost_any Z 1000 (by omega) hwz x (nD + 1) c W h (P 0) hTW.first)
      have HST := hide (fun (i s : Int) (x : Option Addr) (c : Nat) (W : World) (h : ZR W x (nD + 1) c Z) => step_any Z i s 1000 (by omega) hwz x (nD + 1) c W h)
      have HTW := hide hTW
      have HGL := hide (fun (p : Nat) (hp : p < nD) (W : World) (hk : KO w W) => glyph_any (D.getD p 0) (X.getD p 0) W (hDw _ (by simp [List.getD, show p < D.length by omega])) (hm.below hk))
      have HnD := hide hnD
      have HXn := hide hXn
      have HnS := hide hnS
      rw [hXn] at HLN
      rw [hnS] at HS
      clear hm h0 f0 hby hw hD hsc hDw hnD hTA hSA hm01 hXn hSeq hnS hTW hSP hwz hZl hZ
      have hnn : ((nD : Int) + 1 != (nD : Int) + 1) = false := by simp
      go_enter Tryz.func3, Tryz.ntmps3
      go_wp2_with fail
      refine HDC.out.mono ?_
      rintro e w1 ⟨v1, rfl, ho1, hk1⟩
      obtain ⟨a1, c1, rfl, hr1⟩ := row_of_owns ho1
      have K1 := hide (show KO w w1 from hk1)
      have R1 := hide hr1
      have HLN1 := hide (HLN.out a1 c1 w1 hr1 hk1)
      clear ho1 hk1 hr1 HDC HLN
      go_wp2_with fail
      refine HLN1.out.mono ?_
      rintro e w2 ⟨a2, c2, rfl, hx2, hk2⟩
      have K2 := hide (KO.on K1.out hk2)
      have R2 := hide (R1.out.below hk2)
      have X2 := hide hx2
      have HS2 := hide (HS.out a1 a2 c1 c2 w2 (R1.out.below hk2) hx2 (KO.on K1.out hk2))
      clear hx2 hk2 HLN1 HS R1
      go_wp2_with fail
      refine HS2.out.mono ?_
      rintro e w3 ⟨a3, c3, rfl, hs3, hk3⟩
      have K3 := hide (KO.on K2.out hk3)
      have R3 := hide (R2.out.below hk3)
      have X3 := hide (X2.out.below hk3)
      have S3 := hide hs3
      have HSP3 := hide (HSP.out a2 c2 w3 (X2.out.below hk3))
      clear hs3 hk3 HS2 HSP R2 X2
      go_wp2_with fail
      refine HSP3.out.mono ?_
      rintro e w4 ⟨a4, c4, rfl, hz4, hk4⟩
      have K4 := hide (KO.on K3.out hk4)
      have R4 := hide (R3.out.below hk4)
      have X4 := hide (X3.out.below hk4)
      have S4 := hide (S3.out.below hk4)
      have Z4 := hide hz4
      have HLM4 := hide (HLM.out a4 c4 w4 hz4)
      clear hz4 hk4 HSP3 HLM R3 X3 S3
      go_wp2_with fail
      refine HLM4.out.mono ?_
      rintro e w5 ⟨rfl, hk5⟩
      have K5 := hide (KO.on K4.out hk5)
      have R5 := hide (R4.out.below hk5)
      have X5 := hide (X4.out.below hk5)
      have S5 := hide (S4.out.below hk5)
      have Z5 := hide (Z4.out.below hk5)
      clear hk5 HLM4 R4 X4 S4 Z4
      go_wp2
      go_loopw [13, 14, 15] (fun s13 s14 s15 W => ∃ c : Nat, s15 = .int .i64 (c : Int) ∧ c ≤ nS + 1 ∧ s13 = .int .i64 (P c : Int) ∧ s14 = .int .i64 (K c : Int) ∧ Hid (KO w5 W)) (fun _ _ s15 _ => nS + 1 - (intOf s15).toNat)
      case atStart => exact ⟨0, rfl, Nat.zero_le _, rfl, by rw [HTW.out.k0]; rfl, hide (KO.refl _)⟩
      case round =>
        obtain ⟨c, rfl, hc, rfl, rfl, hkw⟩ := hrel
        by_cases hle : c ≤ nS
        · have hli0 : (c : Int) ≤ (nS : Int) := by omega
          have hlt := HTW.out.lt c hle
          have hky := HTW.out.ky c hle
          have hkn := HTW.out.kn c hle
          obtain ⟨p, hp⟩ : ∃ p, P c = p := ⟨_, rfl⟩
          obtain ⟨k, hk⟩ : ∃ k, K c = k := ⟨_, rfl⟩
          obtain ⟨k', hk'⟩ : ∃ k', K (c + 1) = k' := ⟨_, rfl⟩
          rw [hp, hk, hk'] at hky
          rw [hp, hk, hk'] at hkn
          rw [hp] at hlt
          rw [hp, hk]
          have HP := hide hp
          have HK' := hide hk'
          clear hp hk hk'
          have hp1 : ¬ (nD : Int) < (p : Int) := by omega
          have hp2 : ¬ (p : Int) < 0 := by omega
          by_cases hpn : p < nD
          · have hpi : (p : Int) < (nD : Int) := by omega
            obtain ⟨e1, e2, e3⟩ := hky hpn
            have hki : ¬ (nS : Int) ≤ (k : Int) := by omega
            have hki2 : (k : Int) < (nS : Int) := by omega
            obtain ⟨bs, os, rfl, hbs', hcs⟩ := S5.out.cells (by omega)
            obtain ⟨bd, od, rfl, hbd, hcd⟩ := R5.out.cells (by omega)
            obtain ⟨bx, ox, rfl, hbx, hcx⟩ := X5.out.cells (by omega)
            have cs0 := hcs k (by rw [HnS.out]; exact e2)
            have cd0 := hcd p (by rw [HnD.out]; exact hpn)
            have cx0 := hcx p (by rw [HXn.out]; exact hpn)
            rw [e3] at cs0
            have hcS : ∀ W, KO wr W → W.cell? ⟨bs, os + k, none⟩ = some (.int .i32 (Mi.gl (D.getD p 0) (X.getD p 0))) := fun W h => (Below.cell (KO.on hkw.out h) (by exact hbs')).trans cs0
            have hcD : ∀ W, KO wr W → W.cell? ⟨bd, od + p, none⟩ = some (.int .i32 (D.getD p 0)) := fun W h => (Below.cell (KO.on hkw.out h) (by exact hbd)).trans cd0
            have hcX : ∀ W, KO wr W → W.cell? ⟨bx, ox + p, none⟩ = some (.int .i64 (X.getD p 0)) := fun W h => (Below.cell (KO.on hkw.out h) (by exact hbx)).trans cx0
            have HG := hide (fun (W : World) (hk : KO wr W) => HGL.out p hpn W (KO.on K5.out (KO.on hkw.out hk)))
            have hK : KO wr wr := KO.refl _
            have HK2 := hide e1
            clear hcs hcd hcx cs0 cd0 cx0 e1 e2 e3 hky hkn
            generalize Mi.gl (D.getD p 0) (X.getD p 0) = g at *
            generalize D.getD p 0 = dx at *
            generalize X.getD p 0 = xx at *
            have hgg : (g != g) = false := by simp
            have g1 : decide ((nS : Int) ≤ (k : Int)) = false := decide_eq_false hki
            have g2 : decide (nS ≤ k) = false := decide_eq_false (by omega)
            go_wp2_with fail
            refine wp_region_noPanic ?_
            go_region_held (fun w' => KO wr w') (first | assumption | exact KO.drew hK)
              (first
                | (go_at_call 9; refine (HG.out _ (by assumption)).mono ?_; rintro e w7 ⟨rfl, hk7⟩; have hk7' : KO wr w7 := KO.on (by assumption) hk7))
            all_goals (
              refine NoPanic.normal ?_
              have HZ7 := hide (KO.on hkw.out hk7')
              clear hk7 hk7' hcS hcD hcX hK hkw HG hgg g1 g2
              by_cases hlast : c < nS
              · have hli : (c : Int) < (nS : Int) := by omega
                have HS1 := hide (HST.out (p : Int) 1 _ _ w7 (Z5.out.below HZ7.out))
                rw [← HP.out, HTW.out.next c hlast] at HS1
                obtain ⟨q, hq⟩ : ∃ q, P (c + 1) = q := ⟨_, rfl⟩
                have HQ := hide hq
                have HS2 := hide (fun (W : World) (hk : KO w5 W) => HST.out (q : Int) (-1) _ _ W (Z5.out.below hk))
                rw [← hq, HTW.out.prev c hlast] at HS2
                rw [hq] at HS1 HS2
                rw [HP.out] at HS1 HS2
                have hpp : ((p : Int) != (p : Int)) = false := by simp
                have KW := hide HZ7.out
                clear hq
                go_wp2_with fail
                refine HS1.out.mono ?_
                rintro e wB ⟨rfl, hkB⟩
                have KB := hide (KO.on KW.out hkB)
                have HS3 := hide (HS2.out wB (KO.on KW.out hkB))
                clear hkB HS1 HS2
                go_wp2_with fail
                refine HS3.out.mono ?_
                rintro e wC ⟨rfl, hkC⟩
                have KC := hide (KO.on KB.out hkC)
                clear hkC HS3
                go_wp2
                go_roundw
                case rel => exact ⟨c + 1, by go_num, by omega, by rw [HQ.out], by rw [HK'.out, HK2.out]; go_num, KC⟩
                case measure => simp [intOf]; omega
              · obtain rfl : nS = c := by omega
                have hli : ¬ (nS : Int) < (nS : Int) := by omega
                have HS1 := hide (HST.out (p : Int) 1 _ _ w7 (Z5.out.below HZ7.out))
                rw [← HP.out, HTW.out.edge] at HS1
                rw [HP.out] at HS1
                have KW := hide HZ7.out
                go_wp2_with fail
                refine HS1.out.mono ?_
                rintro e wB ⟨rfl, hkB⟩
                have KB := hide (KO.on KW.out hkB)
                clear hkB HS1
                go_wp2
                go_roundw
                case rel => exact ⟨nS + 1, by go_num, by omega, by rw [HTW.out.last]; rfl, by rw [HK'.out, HK2.out]; go_num, KB⟩
                case measure => simp [intOf])
          · have hpi : ¬ (p : Int) < (nD : Int) := by omega
            have HK2 := hide (hkn hpn)
            clear hky hkn
            by_cases hlast : c < nS
            · have hli : (c : Int) < (nS : Int) := by omega
              have HS1 := hide (HST.out (p : Int) 1 _ _ wr (Z5.out.below hkw.out))
              rw [← HP.out, HTW.out.next c hlast] at HS1
              obtain ⟨q, hq⟩ : ∃ q, P (c + 1) = q := ⟨_, rfl⟩
              have HQ := hide hq
              have HS2 := hide (fun (W : World) (hk : KO w5 W) => HST.out (q : Int) (-1) _ _ W (Z5.out.below hk))
              rw [← hq, HTW.out.prev c hlast] at HS2
              rw [hq] at HS1 HS2
              rw [HP.out] at HS1 HS2
              have hpp : ((p : Int) != (p : Int)) = false := by simp
              have KW := hide hkw.out
              clear hq
              go_wp2_with fail
              refine HS1.out.mono ?_
              rintro e wB ⟨rfl, hkB⟩
              have KB := hide (KO.on KW.out hkB)
              have HS3 := hide (HS2.out wB (KO.on KW.out hkB))
              clear hkB HS1 HS2
              go_wp2_with fail
              refine HS3.out.mono ?_
              rintro e wC ⟨rfl, hkC⟩
              have KC := hide (KO.on KB.out hkC)
              clear hkC HS3
              go_wp2
              go_roundw
              case rel => exact ⟨c + 1, by go_num, by omega, by rw [HQ.out], by rw [HK'.out, HK2.out], KC⟩
              case measure => simp [intOf]; omega
            · obtain rfl : nS = c := by omega
              have hli : ¬ (nS : Int) < (nS : Int) := by omega
              have HS1 := hide (HST.out (p : Int) 1 _ _ wr (Z5.out.below hkw.out))
              rw [← HP.out, HTW.out.edge] at HS1
              rw [HP.out] at HS1
              have KW := hide hkw.out
              go_wp2_with fail
              refine HS1.out.mono ?_
              rintro e wB ⟨rfl, hkB⟩
              have KB := hide (KO.on KW.out hkB)
              clear hkB HS1
              go_wp2
              go_roundw
              case rel => exact ⟨nS + 1, by go_num, by omega, by rw [HTW.out.last]; rfl, by rw [HK'.out, HK2.out], KB⟩
              case measure => simp [intOf]
        · obtain rfl : c = nS + 1 := by omega
          have hli0 : ¬ ((nS : Int) + 1) ≤ (nS : Int) := by omega
          rw [HTW.out.kend]
          have hSS : ((nS : Int) == (nS : Int)) = true := by simp
          have K6 := hide (KO.on K5.out hkw.out)
          clear hkw
          go_wp2
          go_ret
          exact ⟨rfl, K6.out⟩
    · obtain ⟨hm0, hX0, hS0⟩ := TA_no hTA hE
      have hE2 : E = 2 ∨ E = 50 := by
        obtain ⟨L, hPA, _⟩ := hTA
        rcases hPA with ⟨_, _, _, e⟩ | ⟨_, h4, _⟩ | ⟨_, _, _, _, _, e⟩ | ⟨_, _, _, _, _, e⟩
        · exact .inl e
        · omega
        · exact .inr e
        · exact absurd e hE
      subst hm0 hX0 hS0
      clear h0 f0 hby hw hD hsc hDw hnD hTA hm hE
      simp only [List.length_nil] at HLN
      rcases hE2 with rfl | rfl
      all_goals
        go_enter Tryz.func3, Tryz.ntmps3
        go_wp2_with fail
        refine HDC.out.mono ?_
        rintro e w1 ⟨v1, rfl, ho1, hk1⟩
        obtain ⟨a1, c1, rfl, hr1⟩ := row_of_owns ho1
        have K1 := hide (show KO w w1 from hk1)
        have HLN1 := hide (HLN.out a1 c1 w1 hr1 hk1)
        clear ho1 hk1 hr1 HDC HLN
        go_wp2_with fail
        refine HLN1.out.mono ?_
        rintro e w2 ⟨a2, c2, rfl, hx2, hk2⟩
        have K2 := hide (KO.on K1.out hk2)
        clear hx2 hk2 HLN1
        go_wp2
        go_ret
        exact ⟨rfl, K2.out⟩
  · have HDC := hide (decode_no a0 n0 c0 b w h0 hby (by omega))
    generalize (Utf.dec b).2 = p at *
    clear hm h0 f0 hby
    go_enter Tryz.func3, Tryz.ntmps3
    go_wp2_with fail
    refine HDC.out.mono ?_
    rintro e w1 ⟨rfl, rfl⟩
    go_wp2
    go_ret
    exact ⟨rfl, Below.refl _ _⟩
end Go.Proofs.YthkmbnbkipomiaaGreatDoor

/- The two listed tables as the rows list them, and a world in which they lie so. -/
namespace Go.Proofs.YthkmbnbkipomiaaGreatDoor
open Go.ChangeShapes Go.WideShapes Go.ChangeAt Go.RowKit
def pairData {H : Type} (l : List (Int × Int)) : DataW H := .agg (l.map fun p => .agg [.lit (.int .i32 p.1), .lit (.int .i32 p.2)])
theorem cells_of_pairs {H : Type} {enc : TypeId × Value → H} {P : Program} {w : World} {base : Nat} {sp : Nat → Bool} {held : Bool} {fuel : Nat} {t e i : TypeId} {n : Nat} {cs : List Value} {l : List (Int × Int)} {p : List MemPlace}
    (ht : P.underlying t = some (.array n e)) (he : P.underlying e = some (.array 2 i)) (hi : P.underlying i = some (.int .i32)) (hci : P.cellsOf i = 1) (hce : P.cellsOf e = 2) (hct : P.cellsOf t = n * 2)
    (h : DataW.trod enc P w base sp held fuel t cs = some (pairData l, p)) : cs = (Ucd.flat2 l).map (Value.int .i32) := by
  cases fuel with
  | zero => simp [DataW.trod] at h
  | succ fuel =>
    simp only [DataW.trod, ht, hce, hct] at h
    split at h
    · rename_i hl
      obtain ⟨xs, hm, hx⟩ := Option.map_eq_some_iff.1 h
      have hxs : xs.map (·.1) = l.map fun p => (DataW.agg [.lit (.int .i32 p.1), .lit (.int .i32 p.2)] : DataW H) := by
        have := congrArg Prod.fst hx
        simpa [pairData] using this
      have hxl : xs.length = n := by simpa using Lib.mapM_length hm
      have hzl : l.length = n := by
        have := congrArg List.length hxs
        simp at this
        omega
      have hcl : cs.length = n * 2 := hl
      have key : ∀ k, k < n → (cs.drop (k * 2)).take 2 = [.int .i32 (l.getD k (0, 0)).1, .int .i32 (l.getD k (0, 0)).2] := by
        intro k hk
        obtain ⟨b, hb, hf⟩ := Lib.mapM_at hm k k (by simp [hk])
        have h2 : (xs.map (·.1))[k]? = some b.1 := by simp [hb]
        rw [hxs] at h2
        have hkl : k < l.length := by omega
        have e0 : l.getD k (0, 0) = l[k] := by simp [List.getD, List.getElem?_eq_getElem hkl]
        simp only [List.getElem?_map, List.getElem?_eq_getElem hkl, Option.map_some, Option.some.injEq] at h2
        obtain ⟨b1, b2⟩ := b
        simp only at h2
        subst h2
        have := Lib.cells_of_tab (zs := [l[k].1, l[k].2]) he hi hci hce hf
        rw [e0]
        exact this
      apply List.ext_getElem?
      intro j
      by_cases hj : j < n * 2
      · have hk : j / 2 < n := by omega
        have e := key (j / 2) hk
        obtain ⟨q0, q1⟩ := pair_at l (j / 2) (by omega)
        have e1 : ∀ m, m < 2 → cs[j / 2 * 2 + m]? = ([.int .i32 (l.getD (j / 2) (0, 0)).1, .int .i32 (l.getD (j / 2) (0, 0)).2] : List Value)[m]? := fun m hm => by
          rw [← e, List.getElem?_take_of_lt hm, List.getElem?_drop]
        rcases Nat.mod_two_eq_zero_or_one j with h0 | h0
        · have ej : j = j / 2 * 2 + 0 := by omega
          rw [ej, e1 0 (by omega), List.getElem?_map, Nat.add_zero]
          rw [q0]
          rfl
        · have ej : j = j / 2 * 2 + 1 := by omega
          rw [ej, e1 1 (by omega), List.getElem?_map]
          rw [q1]
          rfl
      · have hfl : ((Ucd.flat2 l).map (Value.int .i32)).length = n * 2 := by
          have := pair_size l
          simpa [pairCells, hzl] using this
        rw [List.getElem?_eq_none (by omega), List.getElem?_eq_none (by omega)]
    · cases h
theorem var_of {P : Program} {W : World} {name : String} {g : Nat} {cs : Array Value} (hg : P.globalNamed name = some g) (hv : W.var? P name = some cs) (i : Nat) : W.cell? ⟨g, i, none⟩ = cs[i]? := World.var?_cell hg hv i
theorem gB : Tryz.prog.globalNamed "colophon/ucd.brackets" = some 1 := by kernel_rfl
theorem gM : Tryz.prog.globalNamed "colophon/ucd.mirrored" = some 0 := by kernel_rfl
theorem tB : (Tryz.prog.globals[1]?).map (·.type) = some 125 := by kernel_rfl
theorem tM : (Tryz.prog.globals[0]?).map (·.type) = some 77 := by kernel_rfl
theorem cB : Tryz.prog.cellsOf 125 = 21 * 2 := by kernel_rfl
theorem cM : Tryz.prog.cellsOf 77 = 10 * 2 := by kernel_rfl
theorem cP : Tryz.prog.cellsOf 76 = 2 := by kernel_rfl
theorem cI : Tryz.prog.cellsOf 21 = 1 := by kernel_rfl
theorem tab_of {W : World} (h : laidMetH Tryz.prog [("colophon/ucd.brackets", Rows.laid_colophon_ucd_brackets), ("colophon/ucd.mirrored", Rows.laid_colophon_ucd_mirrored)] W) : Marks W := by
  have h' : laidMet Tryz.prog [("colophon/ucd.brackets", Rows.laid_colophon_ucd_brackets), ("colophon/ucd.mirrored", Rows.laid_colophon_ucd_mirrored)] W := h
  obtain ⟨ps, ⟨g, t, cs, fuel, p, q, hg, ht, hvar, hd, ⟨g2, t2, cs2, fuel2, p2, q2, hg2, ht2, hvar2, hd2, _, _⟩, _⟩, _⟩ := h'
  obtain rfl := Option.some.inj (gB.symm.trans hg)
  obtain rfl := Option.some.inj (tB.symm.trans ht)
  obtain rfl := Option.some.inj (gM.symm.trans hg2)
  obtain rfl := Option.some.inj (tM.symm.trans ht2)
  have e1 := cells_of_pairs (l := Ucd.brackets) Tryz.underlying125 Tryz.underlying76 Tryz.underlying21 cI cP cB hd
  have e2 := cells_of_pairs (l := Ucd.mirrored) Tryz.underlying77 Tryz.underlying76 Tryz.underlying21 cI cP cM hd2
  refine ⟨fun i hi => ?_, fun i hi => ?_⟩
  · rw [var_of gM hvar2 i, pairCells, ← e2, Array.toArray_toList]
  · rw [var_of gB hvar i, pairCells, ← e1, Array.toArray_toList]
def laidOf (w : World) : World :=
  { w with heap := (w.heap.modify 0 fun
      | .cells _ t frozen => .cells (pairCells Ucd.mirrored) t frozen
      | o => o).modify 1 fun
      | .cells _ t frozen => .cells (pairCells Ucd.brackets) t frozen
      | o => o }
end Go.Proofs.YthkmbnbkipomiaaGreatDoor
