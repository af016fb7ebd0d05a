/- The law DiskFlushed: a story of writes and flushes, a flush, two crashes. -/
import Derived.Test.YthhfgcpflclflaaIm17
import Derived.Test.YthhfgcpflclflaaWk17
import Derived.Test.YthhfgcpflclflaaAc17
namespace Go.Proofs.Ythhfgcpflclflaa
open Go.RowKit
set_option linter.unusedVariables false
set_option maxHeartbeats 2000000
set_option maxRecDepth 100000
/-- A story has come to its i-th call. -/
structure LS (w : World) (g : Nat) (d : Dk.Ds) (i m : Nat) (wr : World) : Prop where
  od : OD (fun k => w.heap.size ≤ k) wr g d
  bd : Bd d i
  left : d.left = -1
  lies : d.lies.length = m
  bel : KO w wr
section
variable {w wr : World} {g : Nat} {d : Dk.Ds} {i m : Nat}
theorem tick_left {d : Dk.Ds} (h : d.left = -1) : (Dk.tick d).left = -1 := by
  show (if 0 < d.left then d.left - 1 else d.left) = -1
  rw [h]; rfl
theorem WR_left {d : Dk.Ds} (h : d.left = -1) (n : Int) (b : List Int) : (Dk.WR d n b).1.left = -1 ∧ (Dk.WR d n b).1.lies.length = d.lies.length := by
  unfold Dk.WR
  split
  · exact ⟨h, rfl⟩
  · split
    · exact ⟨h, rfl⟩
    · split
      · exact ⟨h, rfl⟩
      · exact ⟨tick_left h, rfl⟩
theorem FL_left {d : Dk.Ds} (h : d.left = -1) : (Dk.FL d).1.left = -1 ∧ (Dk.FL d).1.lies.length = d.lies.length ∧ (Dk.FL d).1.waits = [] ∧ (Dk.FL d).2 = 0 := by
  unfold Dk.FL
  rw [if_neg (by omega)]
  exact ⟨tick_left h, Dk.fw_len _, rfl, rfl⟩
theorem SP_left {d : Dk.Ds} (h : d.left = -1) (n a b : Int) : (Dk.SP d n a b).1.left = -1 ∧ (Dk.SP d n a b).1.lies.length = d.lies.length := by
  unfold Dk.SP
  split
  · exact ⟨h, rfl⟩
  · exact ⟨h, by show (d.lies.set _ _).length = _; rw [List.length_set]⟩
/-- Its own blocks go on being its own. -/
theorem LS.next {w' : World} {d' : Dk.Ds} (h : LS w g d i m wr) (ho : OD (fun k => w.heap.size ≤ k ∨ wr.heap.size ≤ k) w' g d') (hb : Bd d' (i + 1)) (hl : d'.left = -1) (hs : d'.lies.length = m) (hm : Mod (fun k => w.heap.size ≤ k) wr w') : LS w g d' (i + 1) m w' :=
  ⟨ho.mono fun k _ q => by
    rcases q with q | q
    · exact q
    · have := h.bel.size; omega, hb, hl, hs, h.bel.trans (hm.below (B := w.heap.size) h.bel.size fun k q => q)⟩
theorem LS.ko {w' : World} (h : LS w g d i m wr) (hk : KO wr w') : LS w g d i m w' := ⟨h.od.ko hk, h.bd, h.left, h.lies, KO.on h.bel hk⟩
theorem LS.mono {j : Nat} (h : LS w g d i m wr) (hj : i ≤ j) : LS w g d j m wr := ⟨h.od, h.bd.mono hj, h.left, h.lies, h.bel⟩
end
theorem len_int (s : ByteArray) (n : Nat) (h : s.size = n) : (s.size : Int) = (n : Int) := by rw [h]
theorem DiskFlushed_walk (w : World) (a0 : Option Addr) (n0 cap0 : Nat) (h0 : Acts17 w a0 n0 cap0) (a1 : Option Addr) (n1 cap1 : Nat) (z1 : List Int) (h1 : Row .i64 w a1 n1 cap1 z1) (hf1 : ∀ z ∈ z1, (Lit.int .i64 z).wf = true) (hs1 : n1 * 8 ≤ 140737488351232) :
    Calls Try.prog 5 #[.slice a0 n0 cap0, .slice a1 n1 cap1] w fun e w' => e = .returned (.bool true) ∧ Below w.heap.size w w' := by
  have HWK := hide (works17_any w)
  have H0 := hide h0
  have H1 := hide h1
  clear h0 h1 hf1 hs1
  go_enter Try.func5, Try.ntmps5
  go_wp2_with fail
  refine HWK.out.mono ?_
  rintro e w1 ⟨rfl, hk1⟩
  have K1 := hide hk1
  have HN := hide (onew_ok w1 6 (by omega) (by omega))
  clear hk1
  go_wp2_with fail
  refine HN.out.mono ?_
  rintro e w2 ⟨g, rfl, ho2, hk2⟩
  have L2 : Hid (LS w g (Dk.NW 6) 0 6 w2) := hide ⟨ho2.mono fun k _ q => Nat.le_trans K1.out.size q, Bd.nw (by omega), rfl, rfl, KO.on K1.out hk2⟩
  clear ho2 hk2 HN
  go_wp2
  go_loopw [7] (fun s7 wr => ∃ (i : Nat) (d : Dk.Ds), i ≤ 60 ∧ s7 = .int .i64 (i : Int) ∧ Hid (LS w g d i 6 wr)) (fun s7 _ => 60 - (intOf s7).toNat)
  case atStart => exact ⟨0, _, by omega, rfl, L2⟩
  case round =>
    obtain ⟨i, d, hi, rfl, hL⟩ := hrel
    by_cases hgo : i < n0 ∧ i < 60
    · obtain ⟨hin, hi60⟩ := hgo
      have e1 : (i : Int) < (n0 : Int) := by omega
      have e2 : (i : Int) < 60 := by omega
      obtain ⟨ba, oa, rfl, hba, hact⟩ := H0.out.cells (by omega)
      obtain ⟨x, hA0, hG0⟩ := hact i hin
      have hA := hA0.below hL.out.bel hba
      have hB : ∀ w', Below w.heap.size wr w' → w'.cell? ⟨ba, oa + i * 5 + 1, none⟩ = some (.int .i64 x.n) ∧ w'.cell? ⟨ba, oa + i * 5 + 3, none⟩ = some (.slice x.ab x.nb x.cb) := fun w' hb =>
        ⟨(hb.cell (by exact hba)).trans hA.c1, (hb.cell (by exact hba)).trans hA.c3⟩
      have c0 := hA.c0
      have hc1 := fun w' hb => (hB w' hb).1
      have hc3 := fun w' hb => (hB w' hb).2
      have HWR := hide (owrite_any (hL.out.od.ko (below_drewN wr 1)) hL.out.bd (by omega) x.n x.ab x.nb x.cb x.bs (hG0.rb.below (KO.on hL.out.bel (below_drewN wr 1))) hG0.bb)
      have HFL := hide (oflush_any hL.out.od hL.out.bd (by omega))
      have HNW := hide (fun w' (ho : OD (fun k => w.heap.size ≤ k ∨ (wr.drewN 1).heap.size ≤ k) w' g (Dk.WR d x.n x.bs).1) (hm : Mod (fun k => w.heap.size ≤ k) (wr.drewN 1) w') => (hL.out.ko (below_drewN wr 1)).next (w' := w') ho (hL.out.bd.wr _ _) (WR_left hL.out.left _ _).1 ((WR_left hL.out.left _ _).2.trans hL.out.lies) hm)
      have HNF := hide (fun w' (ho : OD (fun k => w.heap.size ≤ k) w' g (Dk.FL d).1) (hm : Mod (fun k => w.heap.size ≤ k) wr w') => hL.out.next (w' := w') (ho.mono fun k _ q => .inl q) hL.out.bd.fl (FL_left hL.out.left).1 ((FL_left hL.out.left).2.1.trans hL.out.lies) hm)
      have hK : Below w.heap.size wr wr := Below.refl _ _
      have hKd : Below w.heap.size wr wr.drew := Below.drew hK
      clear hA hA0 hB hG0 hact
      by_cases hk0 : x.kd = 0
      · rw [hk0] at c0
        go_wp2_with fail
        clear c0
        refine wp_region_noPanic ?_
        go_region_held (fun w' => Below w.heap.size wr w') (first | assumption)
          (first | (go_at_call 17; refine HWR.out.mono ?_; rintro r w6 ⟨rfl, ho6, hm6⟩; have hk6 : Below w.heap.size wr w6 := Below.trans hKd (hm6.below (B := w.heap.size) hL.out.bel.size fun k q => q)))
        all_goals
          refine NoPanic.normal ?_
          have HX := hide (HNW.out _ ho6 hm6)
          clear hc1 hc3 hK hKd ho6 hm6 hk6
          go_wp2
          go_roundw
          case rel => exact ⟨i + 1, _, by omega, by go_num, HX⟩
          case measure => simp [intOf]; omega
      · by_cases hk1 : x.kd = 1
        · rw [hk1] at c0
          clear hc1 hc3 hK hKd
          go_wp2_with fail
          refine HFL.out.mono ?_
          rintro r w6 ⟨rfl, ho6, hm6⟩
          have HX := hide (HNF.out _ ho6 hm6)
          clear ho6 hm6
          go_wp2
          go_roundw
          case rel => exact ⟨i + 1, _, by omega, by go_num, HX⟩
          case measure => simp [intOf]; omega
        · have b0 : (x.kd == 0) = false := beq_eq_false_iff_ne.2 hk0
          have b1 : (x.kd == 1) = false := beq_eq_false_iff_ne.2 hk1
          have HX := hide (hL.out.mono (Nat.le_succ i))
          clear hc1 hc3 hK hKd
          go_wp2
          go_roundw
          case rel => exact ⟨i + 1, _, by omega, by go_num, HX⟩
          case measure => simp [intOf]; omega
    · obtain ⟨q1, q2, q3, q4⟩ := FL_left hL.out.left
      have HFL := hide (oflush_any hL.out.od hL.out.bd (by omega))
      have hbd := hL.out.bd.fl
      have hbel := hL.out.bel
      have hlies := q2.trans hL.out.lies
      rw [q4] at HFL
      obtain ⟨D1, hD1⟩ : ∃ D1, (Dk.FL d).1 = D1 := ⟨_, rfl⟩
      rw [hD1] at q1 q2 q3 HFL hbd hlies
      have HQ1 := hide q1
      have HQ3 := hide q3
      have HBD := hide hbd
      have HBE := hide hbel
      have HLI := hide hlies
      have hcase : (¬ (i : Int) < (n0 : Int)) ∨ ((i : Int) < (n0 : Int) ∧ ¬ (i : Int) < 60) := by omega
      clear q1 q2 q3 q4 hL hD1 hbd hbel hlies hgo
      rcases hcase with e1 | ⟨e1, e2⟩
      all_goals
        go_wp2_with fail
        refine HFL.out.mono ?_
        rintro r w3 ⟨rfl, ho3, hm3⟩
        have K3 := hide (HBE.out.trans (hm3.below (B := w.heap.size) HBE.out.size fun k q => q))
        have O3 := hide ho3
        have HWT := hide (owaits_any ho3 HBD.out (by omega))
        have e0 : D1.waits.length = 0 := by rw [HQ3.out]; rfl
        rw [e0] at HWT
        clear ho3 hm3 e0 e1
        go_wp2_with fail
        refine HWT.out.mono ?_
        rintro r w4 ⟨a4, c4, rfl, hr4, hk4⟩
        have K4 := hide (KO.on K3.out hk4)
        have O4 := hide (O3.out.ko hk4)
        have HIM := hide (oimage_any O4.out HBD.out)
        obtain ⟨sx, hsx⟩ : ∃ sx, str (IM D1) = sx := ⟨_, rfl⟩
        have hlen : sx.size = 384 := by
          rw [← hsx, str_size]
          unfold IM
          rw [IM_len O4.out.wf (by rw [HQ1.out]; omega) _ (Nat.le_refl _), HLI.out]
        have HSX := hide hsx
        have HLN := hide hlen
        rw [hsx] at HIM
        clear hr4 hk4 hsx hlen
        go_wp2_with fail
        refine HIM.out.mono ?_
        rintro r w5 ⟨rfl, hk5⟩
        have K5 := hide (KO.on K4.out hk5)
        have O5 := hide (O4.out.ko hk5)
        have R5 := hide (H1.out.below K5.out)
        have HCR := hide (ocrash_any O5.out HBD.out a1 n1 cap1 z1 R5.out)
        clear hk5
        go_wp2_with fail
        refine HCR.out.mono ?_
        rintro r w6 ⟨x, rfl, ho6, hk6⟩
        have K6 := hide (KO.on K5.out hk6)
        have O6 := hide ho6
        have HCR2 := hide (ocrash_any O6.out (HBD.out.cr z1) a1 n1 cap1 z1 (H1.out.below K6.out))
        clear ho6 hk6
        go_wp2_with fail
        refine HCR2.out.mono ?_
        rintro r w7 ⟨y, rfl, ho7, hk7⟩
        have K7 := hide (KO.on K6.out hk7)
        have O7 := hide ho7
        have P7 := hide (O6.out.ko hk7)
        have i1 : IM (Dk.CR D1 z1) = IM D1 := IM_same (Dk.CR_none HQ3.out z1) HQ3.out.symm (by show (-1 : Int) ≠ 0; omega) (by rw [HQ1.out]; omega)
        have i2 : IM (Dk.CR (Dk.CR D1 z1) z1) = IM D1 := (IM_same (Dk.CR_none rfl z1) rfl (by show (-1 : Int) ≠ 0; omega) (by show (-1 : Int) ≠ 0; omega)).trans i1
        have HI1 := hide (oimage_any P7.out (HBD.out.cr z1))
        rw [i1, HSX.out] at HI1
        clear ho7 hk7
        go_wp2_with fail
        refine HI1.out.mono ?_
        rintro r w8 ⟨rfl, hk8⟩
        have K8 := hide (KO.on K7.out hk8)
        have HI2 := hide (oimage_any (O7.out.ko hk8) ((HBD.out.cr z1).cr z1))
        rw [i2, HSX.out] at HI2
        clear hk8 i1 i2
        go_wp2_with fail
        refine HI2.out.mono ?_
        rintro r w9 ⟨rfl, hk9⟩
        have K9 := hide (KO.on K8.out hk9)
        have hl9 := HLN.out
        clear hk9
        go_wp2
        go_ret
        exact ⟨by simp, K9.out⟩
end Go.Proofs.Ythhfgcpflclflaa
