/- RunsJoin: level runs, one behind the other, are all that is kept. -/
import Derived.Test.YthohbiklnknofaaWorks8
import Derived.Test.YthohbiklnknofaaSm
namespace Go.Proofs.Ythohbiklnknofaa
open Go.RowKit Go.Maps
set_option linter.unusedVariables false
set_option maxHeartbeats 2000000
set_option maxRecDepth 100000
namespace Rn
/-- Where one stands ahead of a place of a run. -/
def gate (rs : List (List Nat)) (j m : Nat) : Nat := if m = 0 then (if j = 0 then 0 else lst rs (j - 1) + 1) else (rn rs j).getD (m - 1) 0 + 1
section
variable {lv : List Int} {rs : List (List Nat)}
theorem gate_ok (h : Runs lv rs) {j m : Nat} (hj : j < rs.length) (hm : m < (rn rs j).length) : gate rs j m ≤ (rn rs j).getD m 0 ∧ ∀ z, gate rs j m ≤ z → z < (rn rs j).getD m 0 → lv.getD z 0 < 0 := by
  have key : ∀ z, kp lv z = false → lv.getD z 0 < 0 := fun z hz => by unfold kp at hz; simpa using hz
  unfold gate
  by_cases hm0 : m = 0
  · subst hm0
    rw [if_pos rfl]
    by_cases hj0 : j = 0
    · subst hj0
      rw [if_pos rfl]
      exact ⟨Nat.zero_le _, fun z _ hz => key z (h.before hj z hz)⟩
    · rw [if_neg hj0]
      obtain ⟨j', rfl⟩ : ∃ j', j = j' + 1 := ⟨j - 1, by omega⟩
      rw [Nat.add_sub_cancel]
      obtain ⟨⟨a1, a2⟩, _⟩ := h.outer j' hj
      exact ⟨a1, fun z h1 h2 => key z (a2 z (by omega) h2)⟩
  · rw [if_neg hm0]
    obtain ⟨m', rfl⟩ : ∃ m', m = m' + 1 := ⟨m - 1, by omega⟩
    rw [Nat.add_sub_cancel]
    obtain ⟨a1, a2⟩ := h.inner j m' hj hm
    exact ⟨a1, fun z h1 h2 => key z (a2 z (by omega) h2)⟩
theorem gate_next (j m : Nat) : gate rs j (m + 1) = (rn rs j).getD m 0 + 1 := by
  unfold gate
  rw [if_neg (by omega), Nat.add_sub_cancel]
theorem gate_run (h : Runs lv rs) {j : Nat} (hj : j < rs.length) : gate rs (j + 1) 0 = gate rs j (rn rs j).length := by
  have := h.pos j hj
  unfold gate
  rw [if_pos rfl, if_neg (by omega), if_neg (by omega), Nat.add_sub_cancel]
  rfl
theorem gate_end (h : Runs lv rs) : gate rs rs.length 0 ≤ lv.length ∧ ∀ z, gate rs rs.length 0 ≤ z → z < lv.length → lv.getD z 0 < 0 := by
  have key : ∀ z, kp lv z = false → lv.getD z 0 < 0 := fun z hz => by unfold kp at hz; simpa using hz
  unfold gate
  rw [if_pos rfl]
  by_cases hj0 : rs.length = 0
  · rw [if_pos hj0]
    refine ⟨Nat.zero_le _, fun z _ hz => key z ?_⟩
    cases hk : kp lv z with
    | false => rfl
    | true => obtain ⟨j, m, h1, _⟩ := h.cover z hz hk; omega
  · rw [if_neg hj0]
    have := (lst_kept h (show rs.length - 1 < rs.length by omega)).1
    exact ⟨this, fun z h1 h2 => key z (h.after (by omega) z (by omega) h2)⟩
def lastl (lv : List Int) (rs : List (List Nat)) (j : Nat) : Int := if j = 0 then -1 else lvl lv rs (j - 1)
theorem lastl_ne (h : Runs lv rs) {j : Nat} (hj : j < rs.length) : ¬ lvl lv rs j = lastl lv rs j := by
  unfold lastl
  by_cases hj0 : j = 0
  · rw [if_pos hj0]
    have := (fst_kept h hj).2
    unfold kp at this
    unfold lvl
    have h2 : 0 ≤ lv.getD (fst rs j) 0 := by simpa using this
    omega
  · rw [if_neg hj0]
    obtain ⟨j', rfl⟩ : ∃ j', j = j' + 1 := ⟨j - 1, by omega⟩
    rw [Nat.add_sub_cancel]
    exact fun e => (h.outer j' hj).2 e.symm
theorem lastl_succ (j : Nat) : lastl lv rs (j + 1) = lvl lv rs j := by unfold lastl; rw [if_neg (by omega), Nat.add_sub_cancel]
end
end Rn
theorem RunsJoin_walk (w : World) (a0 : Option Addr) (n0 cap0 : Nat) (lv : List Int) (h0 : Row .i64 w a0 n0 cap0 lv) (hf0 : ∀ x ∈ lv, (Lit.int .i64 x).wf = true) (hs0 : n0 ≤ 1048576) :
    Calls Try.prog 8 #[.slice a0 n0 cap0] w fun e w' => e = .returned (.bool true) ∧ Below w.heap.size w w' := by
  have HW := hide (works8_any w)
  have H0 := hide h0
  have HL := hide h0.len
  have HLV := hide (fun w' (hk : KO w w') => levels_any a0 n0 cap0 lv w' (h0.below hk) (by omega))
  have hR := Rn.runs_of lv
  have hRl := Rn.R_len lv lv.length
  have hRl2 : (Rn.RS lv).length ≤ n0 := by have := h0.len; unfold Rn.RS; omega
  generalize Rn.RS lv = rs at *
  have HR := hide hR
  generalize hNN : rs.length = N at *
  have HN := hide hNN
  clear h0 hf0 hR hRl hNN
  go_enter Try.func8, Try.ntmps8
  go_wp2_with fail
  refine HW.out.mono ?_
  rintro e w1 ⟨rfl, hb1⟩
  have HB1 := hide hb1
  clear hb1
  go_wp2_with fail
  refine (HLV.out w1 HB1.out).mono ?_
  rintro e W ⟨v, rfl, ⟨vs, hlo⟩, hb2⟩
  obtain ⟨ao, cap, rfl, ll⟩ := hlo.view (HR.out.pos)
  have HLL := hide ll
  have HB := hide (KO.on HB1.out hb2)
  rw [HN.out]
  rw [HN.out] at HLL
  clear hlo hb2 HB1 HLV HW ll
  go_wp2
  go_loopw [3, 4, 14] (fun s3 s4 s14 wr => ∃ j q : Nat, j ≤ N ∧ s14 = .int .i64 (j : Int) ∧ s3 = .int .i64 (Rn.gate rs j 0 : Int) ∧ s4 = .int .i64 (Rn.lastl lv rs j) ∧ wr = W.drewN q) (fun _ _ s14 _ => N - (intOf s14).toNat)
  case atStart => exact ⟨0, 0, Nat.zero_le _, rfl, rfl, rfl, rfl⟩
  case round =>
    obtain ⟨j, q, hj, rfl, rfl, rfl, rfl⟩ := hrel
    by_cases hjl : j < N
    · have hjr : j < rs.length := by rw [HN.out]; exact hjl
      obtain ⟨g, gj, cj, rfl, hgl, cg, hrow⟩ := HLL.out.at' j hjl
      have hpos := HR.out.pos j hjr
      have hin : (j : Int) < (N : Int) := by omega
      have hcl : (Rn.rn rs j).length ≤ cj := hrow.le
      have hcm : cj ≤ 9223372036854775807 := hrow.max
      have HROW := hide hrow
      have HM := hide (fun m (hm : m < (Rn.rn rs j).length) => (show (Rn.rn rs j).getD m 0 < n0 ∧ lv.getD ((Rn.rn rs j).getD m 0) 0 = Rn.lvl lv rs j ∧ 0 ≤ lv.getD ((Rn.rn rs j).getD m 0) 0 from by
        have := HR.out.kept j m hjr hm
        have h2 := this.2.1
        unfold Rn.kp at h2
        refine ⟨by rw [← HL.out]; exact this.1, this.2.2, by simpa using h2⟩))
      have HGO := hide (fun m (hm : m < (Rn.rn rs j).length) => Rn.gate_ok HR.out hjr hm)
      have HZS := hide (fun m (hm : m < (Rn.rn rs j).length) => Rn.zs_at (Rn.rn rs j) m hm)
      have HGN := hide (fun m => Rn.gate_next (rs := rs) j m)
      have HGR := hide (Rn.gate_run HR.out hjr)
      have hne := Rn.lastl_ne HR.out hjr
      have HLS := hide (Rn.lastl_succ (lv := lv) (rs := rs) j)
      have hf := HM.out 0 hpos
      have f0 := row_at hrow hpos
      rw [Rn.zs_at _ _ hpos] at f0
      obtain ⟨cb, off, rfl, hbl, hc⟩ := (H0.out.below HB.out).cells (by omega)
      have cf := hc ((Rn.rn rs j).getD 0 0) (by rw [HL.out]; exact hf.1)
      rw [hf.2.1] at cf
      have HC := hide hc
      generalize hfe : (Rn.rn rs j).getD 0 0 = f at *
      have hf1 : (f : Int) < (n0 : Int) := by have := hf.1; omega
      generalize hmm : (Rn.rn rs j).length = M at *
      have hM0 : ((M : Int) == 0) = false := beq_false_of_ne (by omega)
      have hM1 : (0 : Int) < (M : Int) := by omega
      generalize Rn.lastl lv rs j = la at *
      have hne2 : (Rn.lvl lv rs j == la) = false := beq_false_of_ne hne
      generalize hle : Rn.lvl lv rs j = le at *
      have HLE := hide hle
      clear hrow hc hf hle hfe hmm
      go_wp2
      go_loopw [3, 23] (fun s3 s23 wr => ∃ m q : Nat, m ≤ M ∧ s23 = .int .i64 (m : Int) ∧ s3 = .int .i64 (Rn.gate rs j m : Int) ∧ wr = W.drewN q) (fun _ s23 _ => M - (intOf s23).toNat)
      case atStart => exact ⟨0, q, Nat.zero_le _, rfl, rfl, rfl⟩
      case round =>
        obtain ⟨m, q, hm, rfl, rfl, rfl⟩ := hrel
        by_cases hml : m < M
        · have hm2 : (m : Int) < (M : Int) := by omega
          have rm := row_at HROW.out hml
          rw [HZS.out m hml] at rm
          obtain ⟨k1, k2, k3⟩ := HM.out m hml
          obtain ⟨g1, g2⟩ := HGO.out m hml
          have HGM := hide (HGN.out m)
          have HCC := hide HC.out
          have cp := HC.out ((Rn.rn rs j).getD m 0) (by rw [HL.out]; exact k1)
          rw [k2] at cp k3
          generalize (Rn.rn rs j).getD m 0 = p at *
          generalize Rn.gate rs j m = ga at *
          have hp1 : (p : Int) < (n0 : Int) := by omega
          go_wp2
          go_loopw [3] (fun s3 wr => ∃ z : Nat, ga ≤ z ∧ z ≤ p ∧ s3 = .int .i64 (z : Int) ∧ wr = W.drewN q) (fun s3 _ => p - (intOf s3).toNat)
          case atStart => exact ⟨ga, Nat.le_refl _, g1, rfl, rfl⟩
          case round =>
            obtain ⟨z, hz1, hz2, rfl, rfl⟩ := hrel
            have hzn : (z : Int) < (n0 : Int) := by omega
            by_cases hzp : z < p
            · have hzl := g2 z hz1 hzp
              have cz := HC.out z (by rw [HL.out]; omega)
              generalize lv.getD z 0 = y at *
              go_wp2
              exact ⟨⟨z + 1, by omega, by omega, by go_num, trivial⟩, by simp [intOf]; omega⟩
            · obtain rfl : z = p := by omega
              have hle0 : ¬ le < 0 := by omega
              have gg1 : decide ((n0 : Int) ≤ (z : Int)) = false := decide_eq_false (by omega)
              have gg2 : decide (n0 ≤ z) = false := decide_eq_false (by omega)
              have gg3 : ¬ (n0 : Int) ≤ (z : Int) := by omega
              go_wp2
              go_quiet (fail)
              go_wp2
              exact ⟨⟨m + 1, _, by omega, by go_num, by rw [HGM.out]; go_num, rfl⟩, by simp [intOf]; omega⟩
        · obtain rfl : m = M := by omega
          have hne3 : ¬ ((m : Int) < (m : Int)) := by omega
          go_wp2
          exact ⟨⟨j + 1, _, by omega, by go_num, by rw [HGR.out], by rw [HLS.out], rfl⟩, by simp [intOf]; omega⟩
    · obtain rfl : j = N := by omega
      have hne3 : ¬ ((j : Int) < (j : Int)) := by omega
      obtain ⟨g1, g2⟩ := Rn.gate_end HR.out
      rw [HN.out, HL.out] at g1 g2
      generalize Rn.gate rs j 0 = ga at *
      go_wp2
      go_loopw [3] (fun s3 wr => ∃ z : Nat, ga ≤ z ∧ z ≤ n0 ∧ s3 = .int .i64 (z : Int) ∧ wr = W.drewN q) (fun s3 _ => n0 - (intOf s3).toNat)
      case atStart => exact ⟨ga, Nat.le_refl _, g1, rfl, rfl⟩
      case round =>
        obtain ⟨z, hz1, hz2, rfl, rfl⟩ := hrel
        by_cases hzn : z < n0
        · have hzn2 : (z : Int) < (n0 : Int) := by omega
          obtain ⟨cb, off, rfl, hbl, hc⟩ := (H0.out.below HB.out).cells (by omega)
          have hzl := g2 z hz1 hzn
          have cz := hc z (by rw [HL.out]; exact hzn)
          generalize lv.getD z 0 = y at *
          clear hc
          go_wp2
          exact ⟨⟨z + 1, by omega, by omega, by go_num, trivial⟩, by simp [intOf]; omega⟩
        · obtain rfl : z = n0 := by omega
          have hne4 : ¬ ((z : Int) < (z : Int)) := by omega
          go_wp2
          go_ret
          exact ⟨ret_bool (by simp), KO.on HB.out (below_drewN W q)⟩
end Go.Proofs.Ythohbiklnknofaa
