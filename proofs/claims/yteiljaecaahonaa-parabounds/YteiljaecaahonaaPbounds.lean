/- ParaBounds: where the paragraphs of any text begin and end, and which one a place lies in, is as the document has it. -/
import Derived.Test.YteiljaecaahonaaRefp
import Derived.Test.YteiljaecaahonaaBounds
import Derived.Test.YteiljaecaahonaaSame2
namespace Go.Proofs.Yteiljaecaahonaa
open Go.RowKit
set_option linter.unusedVariables false
set_option maxHeartbeats 1000000
set_option maxRecDepth 100000
theorem rfind_bad (ao : Option Addr) (n cap : Nat) (i : Int) (w : World) (hi : i < 0 ∨ (n : Int) < i) :
    Calls Try.prog 28 #[.slice ao n cap, .int .i64 i] w fun e w' => e = .returned (.tuple #[.int .i64 0, .int .i64 4]) ∧ Below w.heap.size w w' := by
  rcases hi with hi | hi
  · go_enter Try.func28, Try.ntmps28
    go_wp2
    go_ret2
    exact ⟨rfl, Below.refl _ _⟩
  · have h0 : ¬ i < 0 := by omega
    go_enter Try.func28, Try.ntmps28
    go_wp2
    go_ret2
    exact ⟨rfl, Below.refl _ _⟩
theorem rfind_ok (ao : Option Addr) (n cap : Nat) (l : List Int) (i : Nat) (w : World) (h : Row .i32 w ao n cap l) (hf : ∀ x ∈ l, (Lit.int .i32 x).wf = true) (hn : n ≤ 4611686018427387904) (hi : i ≤ n) :
    Calls Try.prog 28 #[.slice ao n cap, .int .i64 (i : Int)] w fun e w' => e = .returned (.tuple #[.int .i64 (seps (l.take i) : Int), .int .i64 0]) ∧ Below w.heap.size w w' := by
  have hsl := run_head ao n cap i (by have := h.le; omega)
  have HBK := hide (rbreaks_any ao i cap (l.take i) w (h.take hi) (fun x hx => hf x (List.mem_of_mem_take hx)) (by omega))
  have e1 : ¬ ((i : Int) < 0) := by omega
  have e2 : ¬ ((n : Int) < (i : Int)) := by omega
  clear h hf
  go_enter Try.func28, Try.ntmps28
  go_wp2_with fail
  refine HBK.out.mono ?_
  rintro e w1 ⟨rfl, hb1⟩
  go_wp2
  go_ret2
  exact ⟨rfl, hb1⟩
theorem rbounds_any (ao : Option Addr) (n cap : Nat) (l : List Int) (w : World) (h : Row .i32 w ao n cap l) (hf : ∀ x ∈ l, (Lit.int .i32 x).wf = true) (hn : n ≤ 1000000) :
    Calls Try.prog 31 #[.slice ao n cap] w fun e w' => ∃ a1 c1, e = .returned (.slice a1 (seps l + 1) c1) ∧ Pairs w' a1 (seps l + 1) c1 (pars l) ∧ Below w.heap.size w w' := by
  have hle := h.le
  have hsl := fun (j : Nat) (hj : j ≤ n) => run_head ao n cap j (by omega)
  have HSL := hide hsl
  have HBA := hide (fun w' (hk : KO w w') => rbreaks_any ao n cap l w' (h.below hk) hf (by omega))
  have HBK := hide (fun (j : Nat) (hj : j ≤ n) w' (hk : KO w w') => rbreaks_any ao j cap (l.take j) w' ((h.below hk).take hj) (fun x hx => hf x (List.mem_of_mem_take hx)) (by omega))
  have HPA := hide (fun (j : Nat) (hj : j ≤ n) w' (hk : KO w w') => rpara_any ao n cap l j w' (h.below hk) hf (by omega) hj)
  have HL := hide h.len
  obtain ⟨S, hS⟩ : ∃ S, seps l = S := ⟨_, rfl⟩
  have hSn : S ≤ n := by rw [← hS, ← h.len]; exact seps_le l
  rw [hS] at HBA ⊢
  have HS := hide hS
  obtain ⟨ie, hie, hz0, hz1, hz2⟩ := info_parts pairInfo
  have HI : Hid (Try.prog.info? 93 = some ie) := hie
  have HZ0 := hide hz0
  have HZ1 := hide hz1
  have HZ2 := hide hz2
  have hbd := build_pair
  have hbo := build_pair1
  clear h hf hS hsl hie hz0 hz1 hz2
  go_enter Try.func31, Try.ntmps31
  go_wp2_with fail
  go_loopw [3, 4] (fun s3 s4 wr => ∃ k : Nat, k ≤ S + 1 ∧ s4 = .int .i64 (k : Int) ∧ Hid (wr.ownsRow w.heap.size 93 2 s3 k (flat2 ((pars l).take k))) ∧ Hid (KO w wr)) (fun _ s4 _ => S + 2 - (intOf s4).toNat)
  case atStart => exact ⟨0, Nat.zero_le _, rfl, World.ownsRow_nil w _ _ _, KO.refl _⟩
  case round =>
    obtain ⟨k, hk, rfl, hown, hkr⟩ := hrel
    by_cases hkS : k ≤ S
    · have e1 : (k : Int) ≤ (S : Int) := by omega
      have hB := HBA.out wr hkr.out
      have HB := hide hB
      obtain ⟨f, hf⟩ : ∃ f, bh l k = f := ⟨_, rfl⟩
      obtain ⟨g, hg⟩ : ∃ g, bh l (k + 1) = g := ⟨_, rfl⟩
      have hfn : f ≤ n := by rw [← hf, ← HL.out]; exact bh_le l k
      have HFK := hide (show seps (l.take f) = k from by rw [← hf]; exact seps_take_bh l k (by rw [HS.out]; exact hkS))
      have HLO := hide (fun (j : Nat) (hj : j < f) => (show seps (l.take j) < k from by
        cases k with
        | zero => rw [bh_zero] at hf; omega
        | succ k => have := seps_take_lt l j k (by rw [hf]; exact hj); omega))
      have HNX := hide (show (pars l).take (k + 1) = (pars l).take k ++ [(f, g)] from by rw [take_snoc' _ _ _ (pars_at l k (by rw [HS.out]; exact hkS))]; unfold parAt; rw [hf, hg])
      have HF := hide hf
      have HG := hide hg
      have HFN := hide hfn
      have HKS := hide hkS
      clear hB hf hg hkS hfn hk
      go_wp2_with (go_at_call 36; refine HB.out.mono ?_; rintro e w2 ⟨rfl, hb2⟩)
      have k2 := KO.on hkr.out hb2
      have HO2 := hide (owns_below hown.out hb2)
      clear hb2 hown hkr
      go_loopw [5] (fun v wi => ∃ j : Nat, v = .int .i64 (j : Int) ∧ j ≤ f ∧ Hid (KO w2 wi)) (fun v _ => f - (intOf v).toNat)
      case atStart => exact ⟨0, rfl, Nat.zero_le _, KO.refl _⟩
      case round =>
        obtain ⟨j, rfl, hj, hkj⟩ := hrel
        have hfn := HFN.out
        have kj : KO w wr := KO.on k2 hkj.out
        have HBJ := hide (HBK.out j (by omega) wr kj)
        have hsj := HSL.out j (by omega)
        by_cases hjf : j < f
        · have hlt := HLO.out j hjf
          obtain ⟨c, hc⟩ : ∃ c, seps (l.take j) = c := ⟨_, rfl⟩
          rw [hc] at HBJ hlt
          have e2 : (c : Int) < (k : Int) := by omega
          have HC := hide hlt
          clear hc hlt
          go_wp2_with (go_at_call 36; refine HBJ.out.mono ?_; rintro e w3 ⟨rfl, hb3⟩)
          go_roundw
          case rel => exact ⟨j + 1, by go_num, by omega, hide (KO.on hkj.out hb3)⟩
          case measure => simp [intOf]; omega
        · obtain rfl : j = f := by omega
          rw [HFK.out] at HBJ
          have e2 : ¬ ((k : Int) < (k : Int)) := by omega
          have HP := hide (fun w' hk => HPA.out j hfn w' hk)
          rw [HFK.out, HF.out, HG.out] at HP
          clear hjf
          go_wp2_with (go_at_call 36; refine HBJ.out.mono ?_; rintro e w3 ⟨rfl, hb3⟩; have k3 := KO.on kj hb3)
          refine (HP.out w3 k3).mono ?_
          rintro e w4 ⟨rfl, hb4⟩
          have k4 := KO.on k3 hb4
          have HO4 := hide (owns_below (owns_below (owns_below HO2.out hkj.out) hb3) hb4)
          have HSZ := hide (Below.size k4)
          have hk60 : k ≤ 1000000 := by have := HKS.out; omega
          clear hb3 hb4
          go_wp2_with (at_builtin; refine wpList_append_own _ rfl _ _ 66 rfl w.heap.size 93 ie _ 2 16 Try.underlying66 HI.out HZ0.out HZ1.out HZ2.out rfl (by decide) _ k _ rfl (HO4.out.alloc _) ⟨w4.heap.size, 0, none⟩ 1 1 [.int .i64 (j : Int), .int .i64 (g : Int)] rfl rfl (two_new w4 _ _ _) (by simp [Value.oneCell']) (by unfold maxLen; omega) (by omega) (by simp; have := HSZ.out; omega) ?_; intro v5 w5 hown5 hg5 hn5)
          have HO5 := hide hown5
          have HK5 := hide (show KO w w5 from Below.trans (KO.alloc k4 _) ((Below.refl w.heap.size _).grown hg5 (by simp; have := HSZ.out; omega) (fun q hq => ((HO4.out.alloc (.cells #[.int .i64 (j : Int), .int .i64 (g : Int)] 93)).lt q hq).1)))
          clear hown5 hg5 hn5
          go_roundw
          case rel => exact ⟨k + 1, by have := HKS.out; omega, by go_num, by rw [HNX.out, flat2_snoc]; exact HO5, HK5⟩
          case measure => simp [intOf]; have := HKS.out; omega
    · obtain rfl : k = S + 1 := by omega
      have e1 : ¬ (((S + 1 : Nat) : Int) ≤ (S : Int)) := by omega
      have HB := hide (HBA.out wr hkr.out)
      have HALL := hide (show (pars l).take (S + 1) = pars l from List.take_of_length_le (by rw [pars_len, HS.out]; exact Nat.le_refl _))
      have ho := hown.out
      rw [HALL.out] at ho
      obtain ⟨a1, c1, rfl, hp⟩ := pairs_of_owns ho
      have HP := hide hp
      clear ho hp hkS hk hown
      go_wp2_with (go_at_call 36; refine HB.out.mono ?_; rintro e w2 ⟨rfl, hb2⟩)
      go_ret
      exact ⟨a1, c1, rfl, HP.out.below hb2, KO.on hkr.out hb2⟩
theorem ParaBounds_walk (w : World) (a0 : Option Addr) (n0 cap0 : Nat) (l : List Int) (h0 : Row .i32 w a0 n0 cap0 l) (hf0 : ∀ x ∈ l, (Lit.int .i32 x).wf = true) (hs0 : n0 * 4 ≤ 140737488351232) (i : Int) (hi : (Lit.int .i64 i).wf = true) :
    Calls Try.prog 7 #[.slice a0 n0 cap0, .int .i64 i] w fun e w' => e = .returned (.bool true) ∧ Below w.heap.size w w' := by
  by_cases hbig : n0 ≤ 60
  · have e0 : ¬ ((60 : Int) < (n0 : Int)) := by omega
    have hfind : ∃ p q : Int, (∀ w', KO w w' → Calls Try.prog 27 #[.slice a0 n0 cap0, .int .i64 i] w' (fun e w2 => e = .returned (.tuple #[.int .i64 p, .int .i64 q]) ∧ Below w'.heap.size w' w2)) ∧
        (∀ w', KO w w' → Calls Try.prog 28 #[.slice a0 n0 cap0, .int .i64 i] w' (fun e w2 => e = .returned (.tuple #[.int .i64 p, .int .i64 q]) ∧ Below w'.heap.size w' w2)) := by
      by_cases hb : i < 0 ∨ (n0 : Int) < i
      · exact ⟨0, 4, fun w' hk => find_bad a0 n0 cap0 l i w' (h0.below hk) hb, fun w' hk => rfind_bad a0 n0 cap0 i w' hb⟩
      · obtain ⟨j, rfl⟩ : ∃ j : Nat, i = (j : Int) := ⟨i.toNat, by omega⟩
        exact ⟨(seps (l.take j) : Int), 0, fun w' hk => find_ok a0 n0 cap0 l j w' (h0.below hk) hf0 (by omega), fun w' hk => rfind_ok a0 n0 cap0 l j w' (h0.below hk) hf0 (by omega) (by omega)⟩
    obtain ⟨p, q, F1, F2⟩ := hfind
    have HF1 := hide F1
    have HF2 := hide F2
    have HB1 := hide (fun w' (hk : KO w w') => bounds_any a0 n0 cap0 l w' (h0.below hk) hf0 (by omega))
    have HB2 := hide (fun w' (hk : KO w w') => rbounds_any a0 n0 cap0 l w' (h0.below hk) hf0 (by omega))
    clear F1 F2 h0 hf0 hs0 hi hbig
    go_enter Try.func7, Try.ntmps7
    go_wp2_with fail
    refine (HF1.out w (KO.refl _)).mono ?_
    rintro e w1 ⟨rfl, hb1⟩
    have k1 : KO w w1 := hb1
    clear hb1
    go_wp2_with fail
    refine (HF2.out w1 k1).mono ?_
    rintro e w2 ⟨rfl, hb2⟩
    have k2 : KO w w2 := KO.on k1 hb2
    clear hb2
    go_wp2_with (go_at_call 26; refine (pnames_any _).mono ?_; rintro e w' ⟨rfl, rfl⟩)
    refine (HB1.out w2 k2).mono ?_
    rintro e w3 ⟨a3, c3, rfl, hp3, hb3⟩
    have k3 : KO w w3 := KO.on k2 hb3
    have HP3 := hide hp3
    clear hp3 hb3
    go_wp2_with fail
    refine (HB2.out w3 k3).mono ?_
    rintro e w4 ⟨a4, c4, rfl, hp4, hb4⟩
    have k4 : KO w w4 := KO.on k3 hb4
    have HS := hide (same2_yes a3 a4 _ c3 c4 (pars l) w4 (HP3.out.below hb4) hp4)
    clear hp4 hb4
    go_wp2_with fail
    refine HS.out.mono ?_
    rintro e w5 ⟨rfl, n5, rfl⟩
    go_wp2_with fail
    go_ret
    exact ⟨ret_bool (by simp), KO.on k4 (by have h := Below.refl w4.heap.size w4; exact ⟨h.os, h.tape, h.output, h.size, h.block⟩)⟩
  · have e0 : (60 : Int) < (n0 : Int) := by omega
    clear h0 hf0 hs0 hbig
    go_enter Try.func7, Try.ntmps7
    go_wp2_with (go_at_call 26; refine (pnames_any _).mono ?_; rintro e w' ⟨rfl, rfl⟩)
    go_ret
    exact ⟨rfl, Below.refl _ _⟩
end Go.Proofs.Yteiljaecaahonaa
