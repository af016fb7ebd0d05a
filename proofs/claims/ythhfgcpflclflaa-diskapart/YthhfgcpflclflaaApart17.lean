/- The law DiskApart: a disk behind a crash goes on by itself. -/
import Derived.Test.YthhfgcpflclflaaFlushed17
namespace Go.Proofs.Ythhfgcpflclflaa
open Go.RowKit
set_option linter.unusedVariables false
set_option maxHeartbeats 2000000
set_option maxRecDepth 100000
/-- The disk of the law. -/
def Y1 : Dk.Ds := (Dk.WR (Dk.NW 4) 0 (List.replicate 64 5)).1
theorem Y1_c : (Dk.WR (Dk.NW 4) 0 (List.replicate 64 5)).2 = 0 := by decide +kernel
theorem Y1_f : Y1.waits.length = 1 ∧ Y1.steps = 1 ∧ Y1.left = -1 ∧ (Dk.WR Y1 1 (List.replicate 64 8)).2 = 0 ∧ (Dk.FL (Dk.WR Y1 1 (List.replicate 64 8)).1).2 = 0 := by decide +kernel
theorem Y1_l (z : List Int) : (Dk.CR Y1 z).lies.length = 4 := by
  show (Dk.cw _ _ _ _).length = 4
  rw [Dk.cw_len]
  rfl
theorem DiskApart_walk (w : World) (a0 : Option Addr) (n0 cap0 : Nat) (h0 : Acts17 w a0 n0 cap0) (a1 : Option Addr) (n1 cap1 : Nat) (z1 : List Int) (h1 : Row .i64 w a1 n1 cap1 z1) (hf1 : ∀ z ∈ z1, (Lit.int .i64 z).wf = true) (hs1 : n1 * 8 ≤ 140737488351232) :
    Calls Try.prog 8 #[.slice a0 n0 cap0, .slice a1 n1 cap1] w fun e w' => e = .returned (.bool true) ∧ Below w.heap.size w w' := by
  have HWK := hide (works17_any w)
  have H0 := hide h0
  have H1 := hide h1
  clear h0 h1 hf1 hs1
  go_enter Try.func8, Try.ntmps8
  go_wp2_with fail
  refine HWK.out.mono ?_
  rintro e w1 ⟨rfl, hk1⟩
  have K1 := hide hk1
  have HN := hide (onew_ok w1 4 (by omega) (by omega))
  clear hk1
  go_wp2_with fail
  refine HN.out.mono ?_
  rintro e w2 ⟨g, rfl, ho2, hk2⟩
  have O2 := hide (ho2.mono (G := fun k => w.heap.size ≤ k) fun k _ q => Nat.le_trans K1.out.size q)
  have K2 := hide (KO.on K1.out hk2)
  have HF := hide (filled_any w2 5 (by omega))
  clear ho2 hk2 HN
  go_wp2_with fail
  refine HF.out.mono ?_
  rintro e w3 ⟨rfl, hnr⟩
  have O3 := hide (O2.out.ko hnr.bel)
  have K3 := hide (KO.on K2.out hnr.bel)
  have HW := hide (owrite_any O3.out (Bd.nw (by omega)) (by omega) 0 _ _ _ _ hnr.row (by decide))
  rw [Y1_c, show (Dk.WR (Dk.NW 4) 0 (List.replicate 64 5)).1 = Y1 from rfl] at HW
  clear hnr HF
  go_wp2_with fail
  refine HW.out.mono ?_
  rintro e w4 ⟨rfl, ho4, hm4⟩
  have K4 := hide (K3.out.trans (hm4.below (B := w.heap.size) K3.out.size fun k q => q))
  have O4 : Hid (OD (fun k => w.heap.size ≤ k ∧ k < w4.heap.size) w4 g Y1) := hide (ho4.mono fun k hk q => ⟨by
    rcases q with q | q
    · exact q
    · have := K3.out.size; omega, hk⟩)
  have HB1 : Hid (Bd Y1 1) := hide ((Bd.nw (n := 4) (by omega)).wr 0 _)
  have HC := hide (ocrash_any O4.out HB1.out a1 n1 cap1 z1 (H1.out.below K4.out))
  clear ho4 hm4 HW
  go_wp2_with fail
  refine HC.out.mono ?_
  rintro e w5 ⟨x, rfl, ho5, hk5⟩
  have L5 : Hid (LS w4 x (Dk.CR Y1 z1) 0 4 w5) := hide ⟨ho5, HB1.out.cr z1, rfl, Y1_l z1, hk5⟩
  have HI := hide (oimage_any (O4.out.ko hk5) HB1.out)
  clear ho5 hk5 HC
  go_wp2_with fail
  refine HI.out.mono ?_
  rintro e w6 ⟨rfl, hk6⟩
  have L6 := hide (L5.out.ko hk6)
  clear hk6 HI
  go_wp2
  go_loopw [10] (fun s10 wr => ∃ (i : Nat) (d : Dk.Ds), i ≤ 40 ∧ s10 = .int .i64 (i : Int) ∧ Hid (LS w4 x d i 4 wr)) (fun s10 _ => 40 - (intOf s10).toNat)
  case atStart => exact ⟨0, _, by omega, rfl, L6⟩
  case round =>
    obtain ⟨i, d, hi, rfl, hL⟩ := hrel
    by_cases hgo : i < n0 ∧ i < 40
    · obtain ⟨hin, hi60⟩ := hgo
      have e1 : (i : Int) < (n0 : Int) := by omega
      have e2 : (i : Int) < 40 := by omega
      obtain ⟨ba, oa, rfl, hba, hact⟩ := H0.out.cells (by omega)
      obtain ⟨y, hA0, hG0⟩ := hact i hin
      have hbel : KO w wr := K4.out.trans (hL.out.bel.mono K4.out.size)
      have hA := hA0.below hbel hba
      have c0 := hA.c0
      have c1 := hA.c1
      have c2 := hA.c2
      have c3 := hA.c3
      have c4 := hA.c4
      obtain ⟨W5, hW5⟩ : ∃ W5, wr.alloc (.cells #[.int .i64 y.kd, .int .i64 y.n, .int .i64 y.at', .slice y.ab y.nb y.cb, .slice y.ak y.nk y.ck] 36) = W5 := ⟨_, rfl⟩
      have HW5 := hide hW5
      have hk5 : KO wr W5 := by rw [← hW5]; exact KO.alloc (KO.refl _) _
      have hx : ∀ j, W5.cell? ⟨wr.heap.size, j, none⟩ = (#[.int .i64 y.kd, .int .i64 y.n, .int .i64 y.at', .slice y.ab y.nb y.cb, .slice y.ak y.nk y.ck] : Array Value)[j]? := fun j => by rw [← hW5, World.cell?_alloc_mark]
      have x0 : W5.cell? ⟨wr.heap.size, 0, none⟩ = some (.int .i64 y.kd) := hx 0
      have x1 : W5.cell? ⟨wr.heap.size, 1, none⟩ = some (.int .i64 y.n) := hx 1
      have x2 : W5.cell? ⟨wr.heap.size, 2, none⟩ = some (.int .i64 y.at') := hx 2
      have x3 : W5.cell? ⟨wr.heap.size, 3, none⟩ = some (.slice y.ab y.nb y.cb) := hx 3
      have L := hide (hL.out.ko hk5)
      have HWR := hide (owrite_any L.out.od L.out.bd (by omega) y.n y.ab y.nb y.cb y.bs (hG0.rb.below (KO.on hbel hk5)) hG0.bb)
      have HFL := hide (oflush_any L.out.od L.out.bd (by omega))
      have HSP := hide (ospoil_any L.out.od y.n y.at' 9 (by omega))
      have HNW := hide (fun w' ho (hm : Mod (fun k => w4.heap.size ≤ k) W5 w') => L.out.next (w' := w') ho (L.out.bd.wr y.n y.bs) (WR_left L.out.left _ _).1 ((WR_left L.out.left _ _).2.trans L.out.lies) hm)
      have HNF := hide (fun w' (ho : OD (fun k => w4.heap.size ≤ k) w' x (Dk.FL d).1) (hm : Mod (fun k => w4.heap.size ≤ k) W5 w') => L.out.next (w' := w') (ho.mono fun k _ q => .inl q) L.out.bd.fl (FL_left L.out.left).1 ((FL_left L.out.left).2.1.trans L.out.lies) hm)
      have HNS := hide (fun w' (ho : OD (fun k => w4.heap.size ≤ k) w' x (Dk.SP d y.n y.at' 9).1) (hm : Mod (fun k => w4.heap.size ≤ k) W5 w') => L.out.next (w' := w') (ho.mono fun k _ q => .inl q) ((L.out.bd.sp y.n y.at' 9).mono (Nat.le_succ i)) (SP_left L.out.left _ _ _).1 ((SP_left L.out.left _ _ _).2.trans L.out.lies) hm)
      have HX0 := hide (L.out.mono (Nat.le_succ i))
      clear hA hA0 hG0 hbel hL hx hk5 hact hW5
      by_cases hk0 : y.kd = 0
      · rw [hk0] at x0 c0 HW5
        go_wp2_with fail
        rw [HW5.out]
        refine HWR.out.mono ?_
        rintro e w6 ⟨rfl, ho6, hm6⟩
        have HX := hide (HNW.out _ ho6 hm6)
        clear ho6 hm6
        go_wp2
        go_roundw
        case rel => exact ⟨i + 1, _, by omega, by go_num, HX⟩
        case measure => simp [intOf]; omega
      · by_cases hk1 : y.kd = 1
        · rw [hk1] at x0 c0 HW5
          go_wp2_with fail
          rw [HW5.out]
          refine HFL.out.mono ?_
          rintro e w6 ⟨rfl, ho6, hm6⟩
          have HX := hide (HNF.out _ ho6 hm6)
          clear ho6 hm6
          go_wp2
          go_roundw
          case rel => exact ⟨i + 1, _, by omega, by go_num, HX⟩
          case measure => simp [intOf]; omega
        · have b0 : (y.kd == 0) = false := beq_eq_false_iff_ne.2 hk0
          have b1 : (y.kd == 1) = false := beq_eq_false_iff_ne.2 hk1
          by_cases hk3 : y.kd = 3
          · rw [hk3] at x0 c0 HW5
            go_wp2_with fail
            rw [HW5.out]
            refine HSP.out.mono ?_
            rintro e w6 ⟨rfl, ho6, hm6⟩
            have HX := hide (HNS.out _ ho6 hm6)
            clear ho6 hm6
            go_wp2
            go_roundw
            case rel => exact ⟨i + 1, _, by omega, by go_num, HX⟩
            case measure => simp [intOf]; omega
          · have b3 : (y.kd == 3) = false := beq_eq_false_iff_ne.2 hk3
            go_wp2
            rw [HW5.out]
            go_roundw
            case rel => exact ⟨i + 1, _, by omega, by go_num, HX0⟩
            case measure => simp [intOf]; omega
    · have hbel : KO w wr := K4.out.trans (hL.out.bel.mono K4.out.size)
      have KB := hide hbel
      have L := hide hL.out
      have OD0 := hide (O4.out.ko hL.out.bel)
      have HI := hide (oimage_any hL.out.od hL.out.bd)
      obtain ⟨f1, f2, f3, f4, f5⟩ := Y1_f
      have hcase : (¬ (i : Int) < (n0 : Int)) ∨ ((i : Int) < (n0 : Int) ∧ ¬ (i : Int) < 40) := by omega
      clear hL hgo hbel
      rcases hcase with e1 | ⟨e1, e2⟩
      all_goals
        go_wp2_with fail
        refine HI.out.mono ?_
        rintro e w7 ⟨rfl, hk7⟩
        have KB7 := hide (KO.on KB.out hk7)
        have L7 := hide (L.out.ko hk7)
        have D7 := hide (OD0.out.ko hk7)
        have HI7 := hide (oimage_any D7.out HB1.out)
        clear hk7
        go_wp2_with fail
        refine HI7.out.mono ?_
        rintro e w8 ⟨rfl, hk8⟩
        have KB8 := hide (KO.on KB7.out hk8)
        have L8 := hide (L7.out.ko hk8)
        have D8 := hide (D7.out.ko hk8)
        have HWT := hide (owaits_any D8.out HB1.out (by omega))
        rw [f1] at HWT
        clear hk8
        go_wp2_with fail
        refine HWT.out.mono ?_
        rintro e w9 ⟨a9, c9, rfl, hr9, hk9⟩
        have KB9 := hide (KO.on KB8.out hk9)
        have L9 := hide (L8.out.ko hk9)
        have D9 := hide (D8.out.ko hk9)
        have HST := hide (osteps_any D9.out)
        rw [f2] at HST
        clear hk9 hr9
        go_wp2_with fail
        refine HST.out.mono ?_
        rintro e w10 ⟨rfl, rfl⟩
        have HF := hide (filled_any w9 8 (by omega))
        go_wp2_with fail
        refine HF.out.mono ?_
        rintro e w11 ⟨rfl, hnr⟩
        have KB11 := hide (KO.on KB9.out hnr.bel)
        have L11 := hide (L9.out.ko hnr.bel)
        have D11 := hide (D9.out.ko hnr.bel)
        have HWR := hide (owrite_any D11.out HB1.out (by omega) 1 _ _ _ _ hnr.row (by decide))
        rw [f4] at HWR
        clear hnr
        go_wp2_with fail
        refine HWR.out.mono ?_
        rintro e w12 ⟨rfl, ho12, hm12⟩
        have X12 : Hid (OD (fun k => w4.heap.size ≤ k ∧ k < w11.heap.size) w12 x d) := hide ((L11.out.od.mono (G := fun k => w4.heap.size ≤ k ∧ k < w11.heap.size) fun k hk q => ⟨q, hk⟩).keep hm12 fun k _ q1 q2 => by omega)
        have KB12 := hide (KB11.out.trans (hm12.below (B := w.heap.size) KB11.out.size fun k q => q.1))
        have HFL := hide (oflush_any ho12 (HB1.out.wr 1 _) (by omega))
        rw [f5] at HFL
        have HGE := hide KB11.out.size
        clear ho12 hm12
        go_wp2_with fail
        refine HFL.out.mono ?_
        rintro e w13 ⟨rfl, ho13, hm13⟩
        have X13 := hide (X12.out.keep hm13 fun k _ q1 q2 => by omega)
        have KB13 := hide (KB12.out.trans (hm13.below (B := w.heap.size) KB12.out.size fun k q => by have := HGE.out; omega))
        have HI13 := hide (oimage_any X13.out L.out.bd)
        clear ho13 hm13
        go_wp2_with fail
        refine HI13.out.mono ?_
        rintro e w14 ⟨rfl, hk14⟩
        have KB14 := hide (KO.on KB13.out hk14)
        clear hk14
        go_wp2
        go_ret
        exact ⟨by simp, KB14.out⟩
end Go.Proofs.Ythhfgcpflclflaa
