/- One call of both disks: a crash. -/
import Derived.Test.YthhfgcpflclflaaDo17
namespace Go.Proofs.Ythhfgcpflclflaa
open Go.RowKit
set_option linter.unusedVariables false
set_option maxHeartbeats 2000000
set_option maxRecDepth 100000

theorem does_crash (B : Nat) (w : World) (g r : Nat) (d : Dk.Ds) (k : Nat) (h : PR (fun x => B ≤ x) w g r d d) (hB : B ≤ w.heap.size) (hb : Bd d k) (hk : k ≤ 4000) (x : A17) (hx : ∀ w', Below B w w' → Good17 w' x) (b0 : (x.kd == 0) = false) (b1 : (x.kd == 1) = false) (b2 : (x.kd == 2) = false) (b3 : (x.kd == 3) = false) :
    Calls Try.prog 13 #[.pointer (some ⟨g, 0, none⟩), .pointer (some ⟨r, 0, none⟩), .agg #[.int .i64 x.kd, .int .i64 x.n, .int .i64 x.at', .slice x.ab x.nb x.cb, .slice x.ak x.nk x.ck]] w fun e w' => ∃ g' r' d', e = .returned (.tuple #[.pointer (some ⟨g', 0, none⟩), .pointer (some ⟨r', 0, none⟩), .bool true]) ∧ PR (fun x => B ≤ x) w' g' r' d' d' ∧ Bd d' (k + 1) ∧ Below B w w' := by
  have hG := hx w (Below.refl _ _)
  have HF1 := hide hG.f1
  have hbn := hG.bnd
  have hbk := hG.bnk
  have HBB := hide hG.bb
  have K1 : Hid (KO w (w.alloc (bx17 x))) := hide (KO.alloc (KO.refl _) _)
  have K2 : Hid (KO w ((w.alloc (bx17 x)).alloc (.cells #[] 5))) := hide (KO.alloc K1.out _)
  have OE : Hid (((w.alloc (bx17 x)).alloc (.cells #[] 5)).ownsRow (w.heap.size + 1) 5 1 (.slice (some ⟨w.heap.size + 1, 0, none⟩) 0 0) 0 []) := hide (owns_empty _ 5 _ (by simp))
  have HR2 := hide ((hx _ (K2.out.mono hB)).rb)
  have c3b : ((w.alloc (bx17 x)).alloc (.cells #[] 5)).cell? ⟨w.heap.size, 3, none⟩ = some (.slice x.ab x.nb x.cb) := (Below.cell (p := ⟨w.heap.size, 3, none⟩) (w := w.alloc (bx17 x)) (KO.alloc (KO.refl _) _) (by simp)).trans (by unfold bx17; rw [World.cell?_alloc_mark]; rfl)
  unfold bx17 at c3b
  have HSZ : Hid (w.heap.size + 1 ≤ ((w.alloc (bx17 x)).alloc (.cells #[] 5)).heap.size) := hide (by simp)
  have HOW := hide (fun v2 w2 hb ho => ow17_of (w1 := w) (w2 := w2) (v2 := v2) h K1.out hb ho)
  have HHX := hide hx
  have HBD := hide hb
  obtain ⟨i5, hi5, hz0, hz1, hz2⟩ := info_parts infoU8x
  have HI5 : Hid (Try.prog.info? 5 = some i5) := hi5
  have HZ0 := hide hz0
  have HZ1 := hide hz1
  have HZ2 := hide hz2
  obtain ⟨i8, hi8, hy0, hy1, hy2⟩ := info_parts infoI64x
  have HI8 : Hid (Try.prog.info? 3 = some i8) := hi8
  have HY0 := hide hy0
  have HY1 := hide hy1
  have HY2 := hide hy2
  have HHP := hide h
  clear hi8 hy0 hy1 hy2
  clear hG hx h hb hi5 hz0 hz1 hz2
  go_enter Try.func13, Try.ntmps13
  go_wp2_with (first
    | (at_builtin; refine wpList_append_row _ rfl (.tmp 16) (.tmp 18) 33 rfl (w.heap.size + 1) 5 i5 (.int .u8 0) 1 Try.underlying33 HI5.out HZ0.out HZ1.out HZ2.out rfl _ 0 [] rfl OE.out .u8 x.ab x.nb x.cb x.bs rfl HR2.out (by omega) (by omega) HSZ.out ?_; intro v2 w2 ho2 hb2; rw [Nat.zero_add, List.nil_append] at ho2; obtain ⟨ao, co, hv2, ho⟩ := HOW.out v2 w2 hb2 ho2; subst hv2; have x0 : w2.cell? ⟨w.heap.size, 0, none⟩ = some (.int .i64 x.kd) := ho.box 0 _ rfl; have x4 : (w2.alloc (.cells #[] 3)).cell? ⟨w.heap.size, 4, none⟩ = some (.slice x.ak x.nk x.ck) := (Below.cell (p := ⟨w.heap.size, 4, none⟩) (KO.alloc (KO.refl w2) _) ho.big).trans (ho.box 4 _ rfl); have OI : Hid ((w2.alloc (.cells #[] 3)).ownsRow w2.heap.size 3 1 (.slice (some ⟨w2.heap.size, 0, none⟩) 0 0) 0 []) := hide (owns_empty w2 3 _ rfl); have OW := hide ho; have KW : Hid (KO w2 (w2.alloc (.cells #[] 3))) := hide (KO.alloc (KO.refl _) _); have RK := hide (HHX.out _ ((KO.on OW.out.bel KW.out).mono hB)).rk; have HSK : Hid (w2.heap.size ≤ (w2.alloc (.cells #[] 3)).heap.size) := hide (by simp); clear ho2 hb2 ho)
    | (at_builtin; refine wpList_append_row _ rfl (.tmp 100) (.tmp 102) 34 rfl w2.heap.size 3 i8 (.int .i64 0) 8 Try.underlying34 HI8.out HY0.out HY1.out HY2.out rfl _ 0 [] rfl OI.out .i64 x.ak x.nk x.ck x.ks rfl RK.out (by omega) (by omega) HSK.out ?_; intro v3 w3 ho3 hb3; rw [Nat.zero_add, List.nil_append] at ho3; obtain ⟨a3, k3, hv3, hr3⟩ := row_of_owns ho3; subst hv3; have K3 : Hid (KO w w3) := hide (KO.on OW.out.bel (KW.out.trans hb3)); have R3 := hide hr3; have K23 : Hid (KO w2 w3) := hide (KW.out.trans hb3); have HCR := hide (ocrash_any (HHP.out.ko K3.out).od HBD.out a3 x.nk k3 x.ks hr3); clear ho3 hb3 hr3 x4))
  refine HCR.out.mono ?_
  rintro e w4 ⟨gx, rfl, ho4, hk4⟩
  have K4 := hide (KO.on K3.out hk4)
  have K24 := hide (KO.on K23.out hk4)
  have HAL := hide (alike_any (HHP.out.ko K4.out) HBD.out (by omega))
  have O4 : Hid (OD (fun y => B ≤ y ∧ y < w4.heap.size) w4 gx (Dk.CR d x.ks)) := hide (ho4.mono fun y hy q => ⟨by have := K3.out.size; omega, hy⟩)
  have R4 := hide (R3.out.below hk4)
  clear ho4 hk4 HCR c3b x0
  go_wp2_with fail
  refine HAL.out.mono ?_
  rintro e w5 ⟨rfl, hk5⟩
  have K5 := hide (KO.on K4.out hk5)
  have K25 := hide (KO.on K24.out hk5)
  have O5 := hide (O4.out.ko hk5)
  have HL5 := hide hk5.size
  have x4 : w5.cell? ⟨w.heap.size, 4, none⟩ = some (.slice x.ak x.nk x.ck) := (Below.cell (p := ⟨w.heap.size, 4, none⟩) K25.out OW.out.big).trans (OW.out.box 4 _ rfl)
  have HIN := hide (ints_yes a3 x.ak x.nk k3 x.ck x.ks w5 (R4.out.below hk5) (HHX.out w5 (K5.out.mono hB)).rk)
  clear hk5 HAL
  go_wp2_with fail
  refine HIN.out.mono ?_
  rintro e w6 ⟨rfl, hd6⟩
  have hk6 : KO w5 w6 := below_of_drewN hd6
  have K6 := hide (KO.on K5.out hk6)
  have O6 := hide (O5.out.ko hk6)
  have HL6 := hide hk6.size
  have x6 : w6.cell? ⟨w.heap.size, 4, none⟩ = some (.slice x.ak x.nk x.ck) := (Below.cell (p := ⟨w.heap.size, 4, none⟩) (KO.on K25.out hk6) OW.out.big).trans (OW.out.box 4 _ rfl)
  have HXC := hide (xcrash_any (HHP.out.ko K6.out).ro HBD.out x.ak x.nk x.ck x.ks (HHX.out w6 (K6.out.mono hB)).rk)
  clear x4 hd6 hk6 HIN
  go_wp2_with fail
  refine HXC.out.mono ?_
  rintro e w7 ⟨rx, rfl, ho7, hk7⟩
  have K7 := hide (KO.on K6.out hk7)
  have HPR : Hid (PR (fun y => B ≤ y) w7 gx rx (Dk.CR d x.ks) (Dk.CR d x.ks)) := hide (PR.make (E := w6.heap.size) ((O6.out.ko hk7).mono fun y _ q => ⟨q.1, by have := HL5.out; have := HL6.out; omega⟩) ho7 (by have := K6.out.size; omega) (by have := K7.out.size; omega))
  have HBC := hide ((HBD.out.cr x.ks).mono (Nat.zero_le (k + 1)))
  clear ho7 hk7 HXC x6
  go_wp2
  go_ret3
  exact ⟨_, _, _, rfl, HPR.out, HBC.out, K7.out.mono hB⟩
/-- A call, whatever it is. -/
theorem does_any (B : Nat) (w : World) (g r : Nat) (d : Dk.Ds) (k : Nat) (h : PR (fun x => B ≤ x) w g r d d) (hB : B ≤ w.heap.size) (hb : Bd d k) (hk : k ≤ 4000) (x : A17) (hx : ∀ w', Below B w w' → Good17 w' x) :
    Calls Try.prog 13 #[.pointer (some ⟨g, 0, none⟩), .pointer (some ⟨r, 0, none⟩), .agg #[.int .i64 x.kd, .int .i64 x.n, .int .i64 x.at', .slice x.ab x.nb x.cb, .slice x.ak x.nk x.ck]] w fun e w' => ∃ g' r' d', e = .returned (.tuple #[.pointer (some ⟨g', 0, none⟩), .pointer (some ⟨r', 0, none⟩), .bool true]) ∧ PR (fun x => B ≤ x) w' g' r' d' d' ∧ Bd d' (k + 1) ∧ Below B w w' := by
  by_cases h0 : x.kd = 0
  · exact does_write B w g r d k h hB hb hk x hx h0
  · by_cases h1 : x.kd = 1
    · exact does_flush B w g r d k h hB hb hk x hx h1
    · by_cases h2 : x.kd = 2
      · exact does_stop B w g r d k h hB hb hk x hx h2
      · by_cases h3 : x.kd = 3
        · exact does_spoil B w g r d k h hB hb hk x hx h3
        · exact does_crash B w g r d k h hB hb hk x hx (beq_eq_false_iff_ne.2 h0) (beq_eq_false_iff_ne.2 h1) (beq_eq_false_iff_ne.2 h2) (beq_eq_false_iff_ne.2 h3)
end Go.Proofs.Ythhfgcpflclflaa
