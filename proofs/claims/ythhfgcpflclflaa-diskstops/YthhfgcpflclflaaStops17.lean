/- The law DiskStops: a disk that is stopped does just so many steps. -/
import Derived.Test.YthhfgcpflclflaaFlushed17
import Derived.Test.YthhfgcpflclflaaBools
namespace Go.Proofs.Ythhfgcpflclflaa
open Go.RowKit
set_option linter.unusedVariables false
set_option maxHeartbeats 2000000
set_option maxRecDepth 100000
/-- A story of a stopped disk. -/
structure SS (w : World) (g : Nat) (d : Dk.Ds) (N i dn wt : Nat) (wr : World) : Prop where
  od : OD (fun k => w.heap.size ≤ k) wr g d
  bd : Bd d i
  left : d.left = (N : Int) - (dn : Int)
  steps : d.steps = dn
  waits : d.waits.length = wt
  lies : d.lies.length = 3
  bel : KO w wr
section
variable {w wr w' : World} {g : Nat} {d d' : Dk.Ds} {N i dn wt : Nat}
theorem SS.ko (h : SS w g d N i dn wt wr) (hk : KO wr w') : SS w g d N i dn wt w' := ⟨h.od.ko hk, h.bd, h.left, h.steps, h.waits, h.lies, KO.on h.bel hk⟩
theorem tick_of (d : Dk.Ds) (h : 0 < d.left) : (Dk.tick d).left = d.left - 1 := by
  show (if 0 < d.left then d.left - 1 else d.left) = _
  rw [if_pos h]
theorem SS.write (h : SS w g d N i dn wt wr) (hdn : dn < N) (n : Int) (hn : 0 ≤ n ∧ n < 3) (b : List Int) (hb : b.length = 64)
    (ho : OD (fun k => w.heap.size ≤ k ∨ wr.heap.size ≤ k) w' g (Dk.WR d n b).1) (hm : Mod (fun k => w.heap.size ≤ k) wr w') : SS w g (Dk.WR d n b).1 N (i + 1) (dn + 1) (wt + 1) w' := by
  have hh : Dk.has d n := by unfold Dk.has; rw [h.lies]; omega
  have hl := h.left
  have e := WR_ok (d := d) hh hb (by omega)
  refine ⟨ho.mono fun k _ q => ?_, h.bd.wr n b, ?_, ?_, ?_, ?_, h.bel.trans (hm.below (B := w.heap.size) h.bel.size fun k q => q)⟩
  · rcases q with q | q
    · exact q
    · have := h.bel.size; omega
  · rw [e]
    show (Dk.tick _).left = _
    rw [tick_of _ (by show 0 < d.left; omega)]
    show d.left - 1 = _
    omega
  · rw [e]
    show d.steps + 1 = _
    rw [h.steps]
  · rw [e]
    show (d.waits ++ [_]).length = _
    rw [List.length_append, h.waits]; rfl
  · rw [e]; exact h.lies
theorem SS.flush (h : SS w g d N i dn wt wr) (hdn : dn < N) (ho : OD (fun k => w.heap.size ≤ k) w' g (Dk.FL d).1) (hm : Mod (fun k => w.heap.size ≤ k) wr w') : SS w g (Dk.FL d).1 N (i + 1) (dn + 1) 0 w' := by
  have hl := h.left
  have e := FL_ok (d := d) (by omega)
  refine ⟨ho, h.bd.fl, ?_, ?_, ?_, ?_, h.bel.trans (hm.below (B := w.heap.size) h.bel.size fun k q => q)⟩
  · rw [e]
    show (Dk.tick _).left = _
    rw [tick_of _ (by show 0 < d.left; omega)]
    show d.left - 1 = _
    omega
  · rw [e]
    show d.steps + 1 = _
    rw [h.steps]
  · rw [e]; rfl
  · rw [e]
    show (Dk.fw _ _ _).length = _
    rw [Dk.fw_len, h.lies]
theorem SS.stay (h : SS w g d N i dn wt wr) (ho : OD (fun k => w.heap.size ≤ k ∨ wr.heap.size ≤ k) w' g d) (hm : Mod (fun k => w.heap.size ≤ k) wr w') : SS w g d N (i + 1) dn wt w' :=
  ⟨ho.mono fun k _ q => by
    rcases q with q | q
    · exact q
    · have := h.bel.size; omega, h.bd.mono (Nat.le_succ _), h.left, h.steps, h.waits, h.lies, h.bel.trans (hm.below (B := w.heap.size) h.bel.size fun k q => q)⟩
end
theorem FL_down {d : Dk.Ds} (h : d.left = 0) : Dk.FL d = (d, 170) := by
  unfold Dk.FL
  rw [if_pos h]
theorem WR_down {d : Dk.Ds} {n : Int} {b : List Int} (h1 : Dk.has d n) (h2 : b.length = 64) (h : d.left = 0) : Dk.WR d n b = (d, 170) := by
  unfold Dk.WR
  rw [if_neg (not_not_intro h1), if_neg (by simpa using h2), if_pos h]
theorem DiskStops_walk (w : World) (m : Int) (hm : (Lit.int .i64 m).wf = true) (a1 : Option Addr) (n1 cap1 : Nat) (B : Nat → Bool) (h1 : BRow w a1 n1 B) :
    Calls Try.prog 7 #[.int .i64 m, .slice a1 n1 cap1] w fun e w' => e = .returned (.bool true) ∧ Below w.heap.size w w' := by
  have HWK := hide (works17_any w)
  have H1 := hide h1
  obtain ⟨N, hN, hwr⟩ : ∃ N : Nat, N < 40 ∧ wrap64 ((IntKind.u64.wrap m).tmod 40) = (N : Int) := place_at m 40 (by omega) (by omega)
  clear h1 hm
  go_enter Try.func7, Try.ntmps7
  go_wp2_with fail
  refine HWK.out.mono ?_
  rintro e w1 ⟨rfl, hk1⟩
  have K1 := hide hk1
  have HN := hide (onew_ok w1 3 (by omega) (by omega))
  clear hk1
  go_wp2_with fail
  refine HN.out.mono ?_
  rintro e w2 ⟨g, rfl, ho2, hk2⟩
  have O2 := hide (ho2.mono (G := fun k => w.heap.size ≤ k) fun k _ q => Nat.le_trans K1.out.size q)
  have K2 := hide (KO.on K1.out hk2)
  have HS := hide (ostop_any O2.out (N : Int))
  have hst : Dk.ST (Dk.NW 3) (N : Int) = ({ Dk.NW 3 with left := (N : Int) }, 0) := by unfold Dk.ST; rw [if_neg (by omega)]
  rw [hst] at HS
  clear ho2 hk2 HN hst
  go_wp2_with fail
  refine HS.out.mono ?_
  rintro e w3 ⟨rfl, ho3, hm3⟩
  have S3 : Hid (SS w g { Dk.NW 3 with left := (N : Int) } N 0 0 0 w3) := hide ⟨ho3, ⟨Nat.le_refl _, Nat.le_refl _, by show (N : Int) ≤ _; omega, by show (3 : Nat) ≤ 4096; omega⟩, by show (N : Int) = _; omega, rfl, rfl, rfl, K2.out.trans (hm3.below (B := w.heap.size) K2.out.size fun k q => q)⟩
  clear ho3 hm3 HS hwr
  go_wp2
  go_loopw [7, 8, 9, 10] (fun s7 s8 s9 _ wr => ∃ (i dn wt : Nat) (d : Dk.Ds), i ≤ 80 ∧ dn ≤ N ∧ dn ≤ i ∧ wt ≤ i ∧ s7 = .int .i64 (wt : Int) ∧ s8 = .int .i64 (dn : Int) ∧ s9 = .int .i64 (i : Int) ∧ Hid (SS w g d N i dn wt wr)) (fun _ _ s9 _ _ => 80 - (intOf s9).toNat)
  case atStart => exact ⟨0, 0, 0, _, by omega, by omega, by omega, by omega, rfl, rfl, rfl, S3⟩
  case round =>
    obtain ⟨i, dn, wt, d, hi, hdN, hdi, hwi, rfl, rfl, rfl, hS⟩ := hrel
    by_cases hgo : i < n1 ∧ i < 80
    · obtain ⟨hin, hi60⟩ := hgo
      have e1 : (i : Int) < (n1 : Int) := by omega
      have e2 : (i : Int) < 80 := by omega
      obtain ⟨bb, ob, rfl, hbb, hc⟩ := H1.out.cells (by omega)
      have cB := (Below.cell hS.out.bel (by exact hbb)).trans (hc i hin)
      have HCB := hide (fun w' (hk : Below w.heap.size w w') => (Below.cell (p := ⟨bb, ob + i, none⟩) hk (by exact hbb)).trans (hc i hin))
      have SX := hide hS.out
      have htm : (i : Int).tmod 3 = ((i % 3 : Nat) : Int) := by rw [Int.tmod_eq_emod_of_nonneg (by omega)]; omega
      have hwp : IntKind.u8.wrap (i : Int) = (i : Int) := by rw [IntKind.wrap_u8]; omega
      by_cases hB : B i = true
      · rw [hB] at cB HCB
        have HFL := hide (oflush_any SX.out.od SX.out.bd (by omega))
        by_cases hdn : dn < N
        · have e3 : (dn : Int) < (N : Int) := by omega
          have hcode : (Dk.FL d).2 = 0 := by rw [FL_ok (d := d) (by have := SX.out.left; omega)]
          have HNX := hide (fun w' ho hm => SX.out.flush (w' := w') hdn ho hm)
          rw [hcode] at HFL
          obtain ⟨D, hD⟩ : ∃ D, (Dk.FL d).1 = D := ⟨_, rfl⟩
          rw [hD] at HFL HNX
          clear hS hcode hD hc
          go_wp2_with fail
          refine HFL.out.mono ?_
          rintro e w6 ⟨rfl, ho6, hm6⟩
          have S6 := hide (HNX.out _ ho6 hm6)
          have c6 := HCB.out _ S6.out.bel
          have HST := hide (osteps_any S6.out.od)
          have hst : ((D.steps : Nat) : Int) = (dn : Int) + 1 := by rw [S6.out.steps]; omega
          rw [hst] at HST
          have HWT := hide (owaits_any S6.out.od S6.out.bd (by omega))
          rw [S6.out.waits] at HWT
          clear ho6 hm6 hst HFL HNX cB
          go_wp2_with fail
          refine HST.out.mono ?_
          rintro e w7 ⟨rfl, rfl⟩
          go_wp2_with fail
          refine HWT.out.mono ?_
          rintro e w8 ⟨a8, c8, rfl, hr8, hk8⟩
          have S8 := hide (S6.out.ko hk8)
          clear hr8 hk8 c6
          go_wp2
          go_roundw
          case rel => exact ⟨i + 1, dn + 1, 0, D, by omega, by omega, by omega, by omega, by go_num, by go_num, by go_num, S8⟩
          case measure => simp [intOf]; omega
        · have e3 : ¬ (dn : Int) < (N : Int) := by omega
          have hcode := FL_down (d := d) (by have := SX.out.left; omega)
          rw [hcode] at HFL
          clear hS hcode hc
          go_wp2_with fail
          refine HFL.out.mono ?_
          rintro e w6 ⟨rfl, ho6, hm6⟩
          have S6 := hide (SX.out.stay (ho6.mono fun k _ q => .inl q) hm6)
          have HST := hide (osteps_any S6.out.od)
          rw [S6.out.steps] at HST
          have HWT := hide (owaits_any S6.out.od S6.out.bd (by omega))
          rw [S6.out.waits] at HWT
          clear ho6 hm6 HFL cB
          go_wp2_with fail
          refine HST.out.mono ?_
          rintro e w7 ⟨rfl, rfl⟩
          go_wp2_with fail
          refine HWT.out.mono ?_
          rintro e w8 ⟨a8, c8, rfl, hr8, hk8⟩
          have S8 := hide (S6.out.ko hk8)
          clear hr8 hk8
          go_wp2
          go_roundw
          case rel => exact ⟨i + 1, dn, wt, d, by omega, by omega, by omega, by omega, by go_num, by go_num, by go_num, S8⟩
          case measure => simp [intOf]; omega
      · have hB0 : B i = false := by simpa using hB
        rw [hB0] at cB HCB
        have HFI := hide (filled_any wr (i : Int) (by omega))
        have hh : Dk.has d ((i % 3 : Nat) : Int) := by unfold Dk.has; rw [SX.out.lies]; omega
        have hrl : (List.replicate 64 (i : Int)).length = 64 := by simp
        have hry : ∀ x ∈ List.replicate 64 (i : Int), 0 ≤ x ∧ x ≤ 255 := fun x hx => by rw [(List.mem_replicate.1 hx).2]; omega
        have HWR := hide (fun w' (hk : NR .u8 5 wr 64 (List.replicate 64 (i : Int)) w') => owrite_any (SX.out.od.ko hk.bel) SX.out.bd (by omega) ((i % 3 : Nat) : Int) _ _ _ _ hk.row hry)
        by_cases hdn : dn < N
        · have e3 : (dn : Int) < (N : Int) := by omega
          have hcode : (Dk.WR d ((i % 3 : Nat) : Int) (List.replicate 64 (i : Int))).2 = 0 := by rw [WR_ok hh hrl (by have := SX.out.left; omega)]
          have HNX := hide (fun w1 (hk : KO wr w1) w' ho hm => (SX.out.ko hk).write (w' := w') hdn ((i % 3 : Nat) : Int) (by omega) _ hrl ho hm)
          rw [hcode] at HWR
          obtain ⟨D, hD⟩ : ∃ D, (Dk.WR d ((i % 3 : Nat) : Int) (List.replicate 64 (i : Int))).1 = D := ⟨_, rfl⟩
          rw [hD] at HWR HNX
          clear hS hcode hD hc hh hrl hry
          go_wp2_with fail
          refine HFI.out.mono ?_
          rintro e w5 ⟨rfl, hnr⟩
          have HW5 := hide (HWR.out _ hnr)
          have HN5 := hide (HNX.out _ hnr.bel)
          have hge := hnr.bel.size
          clear HWR HNX hnr
          go_wp2_with fail
          refine HW5.out.mono ?_
          rintro e w6 ⟨rfl, ho6, hm6⟩
          have S6 := hide (HN5.out _ ho6 hm6)
          have c6 := HCB.out _ S6.out.bel
          have HST := hide (osteps_any S6.out.od)
          have hst : ((D.steps : Nat) : Int) = (dn : Int) + 1 := by rw [S6.out.steps]; omega
          rw [hst] at HST
          have HWT := hide (owaits_any S6.out.od S6.out.bd (by omega))
          rw [S6.out.waits] at HWT
          clear ho6 hm6 hst HW5 HN5 cB
          go_wp2_with fail
          refine HST.out.mono ?_
          rintro e w7 ⟨rfl, rfl⟩
          go_wp2_with fail
          refine HWT.out.mono ?_
          rintro e w8 ⟨a8, c8, rfl, hr8, hk8⟩
          have S8 := hide (S6.out.ko hk8)
          clear hr8 hk8 c6
          go_wp2
          go_roundw
          case rel => exact ⟨i + 1, dn + 1, wt + 1, D, by omega, by omega, by omega, by omega, by go_num, by go_num, by go_num, S8⟩
          case measure => simp [intOf]; omega
        · have e3 : ¬ (dn : Int) < (N : Int) := by omega
          have hcode := WR_down hh hrl (by have := SX.out.left; omega)
          rw [hcode] at HWR
          clear hS hcode hc hh hrl hry
          go_wp2_with fail
          refine HFI.out.mono ?_
          rintro e w5 ⟨rfl, hnr⟩
          have HW5 := hide (HWR.out _ hnr)
          have SX5 := hide (SX.out.ko hnr.bel)
          clear HWR hnr
          go_wp2_with fail
          refine HW5.out.mono ?_
          rintro e w6 ⟨rfl, ho6, hm6⟩
          have S6 := hide (SX5.out.stay ho6 hm6)
          have HST := hide (osteps_any S6.out.od)
          rw [S6.out.steps] at HST
          have HWT := hide (owaits_any S6.out.od S6.out.bd (by omega))
          rw [S6.out.waits] at HWT
          clear ho6 hm6 HW5 cB
          go_wp2_with fail
          refine HST.out.mono ?_
          rintro e w7 ⟨rfl, rfl⟩
          go_wp2_with fail
          refine HWT.out.mono ?_
          rintro e w8 ⟨a8, c8, rfl, hr8, hk8⟩
          have S8 := hide (S6.out.ko hk8)
          clear hr8 hk8
          go_wp2
          go_roundw
          case rel => exact ⟨i + 1, dn, wt, d, by omega, by omega, by omega, by omega, by go_num, by go_num, by go_num, S8⟩
          case measure => simp [intOf]; omega
    · have SX := hide hS.out
      have HRD := hide (oread_any SX.out.od 0)
      have hh : Dk.has d 0 := by unfold Dk.has; rw [SX.out.lies]; omega
      have hcase : (¬ (i : Int) < (n1 : Int)) ∨ ((i : Int) < (n1 : Int) ∧ ¬ (i : Int) < 80) := by omega
      clear hS hgo
      by_cases hdn : dn = N
      · have hcode : (Dk.RD d 0).2 = 170 := by unfold Dk.RD; rw [if_neg (not_not_intro hh), if_pos (by have := SX.out.left; omega)]
        subst hdn
        rw [hcode] at HRD
        clear hh hcode
        rcases hcase with e1 | ⟨e1, e2⟩
        all_goals
          go_wp2_with fail
          refine HRD.out.mono ?_
          rintro e w7 ⟨a7, c7, rfl, _, hk7, _⟩
          have KB := hide (KO.on SX.out.bel hk7)
          clear hk7
          go_wp2
          go_ret
          exact ⟨by simp, KB.out⟩
      · have hcode : (Dk.RD d 0).2 = 0 := by unfold Dk.RD; rw [if_neg (not_not_intro hh), if_neg (by have := SX.out.left; omega)]
        have hne : ((dn : Int) == (N : Int)) = false := beq_eq_false_iff_ne.2 (by omega)
        rw [hcode] at HRD
        clear hh hcode
        rcases hcase with e1 | ⟨e1, e2⟩
        all_goals
          go_wp2_with fail
          refine HRD.out.mono ?_
          rintro e w7 ⟨a7, c7, rfl, _, hk7, _⟩
          have KB := hide (KO.on SX.out.bel hk7)
          clear hk7
          go_wp2
          go_ret
          exact ⟨by simp, KB.out⟩
end Go.Proofs.Ythhfgcpflclflaa
