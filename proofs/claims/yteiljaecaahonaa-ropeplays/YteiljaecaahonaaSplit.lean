/- split and concat. -/
import Derived.Test.YteiljaecaahonaaJoin
namespace Go.Proofs.Yteiljaecaahonaa
open Go.RowKit
set_option linter.unusedVariables false
set_option maxHeartbeats 2000000
set_option maxRecDepth 100000
theorem take_left {a b : List Int} {k : Nat} (h : k ≤ a.length) : (a ++ b).take k = a.take k := by
  rw [List.take_append_of_le_length h]
theorem drop_left {a b : List Int} {k : Nat} (h : k ≤ a.length) : (a ++ b).drop k = a.drop k ++ b := by
  rw [List.drop_append_of_le_length h]
theorem take_right {a b : List Int} {x : Int} {k : Nat} : (a ++ x :: b).take (a.length + 1 + k) = a ++ x :: b.take k := by
  rw [show a ++ x :: b = (a ++ [x]) ++ b from by simp, show a.length + 1 + k = (a ++ [x]).length + k from by simp, List.take_length_add_append]; simp
theorem drop_right {a b : List Int} {x : Int} {k : Nat} : (a ++ x :: b).drop (a.length + 1 + k) = b.drop k := by
  rw [show a ++ x :: b = (a ++ [x]) ++ b from by simp, show a.length + 1 + k = (a ++ [x]).length + k from by simp, List.drop_length_add_append]
theorem split_any (t : Tr) : ∀ (at0 : Int) (w : World), Lies w t → t.bal → t.size ≤ 1152921504606846976 → -9223372036854775808 ≤ at0 → at0 ≤ 9223372036854775807 →
    Calls Try.prog 44 #[.pointer t.at, .int .i64 at0] w fun e w' => ∃ a b : Tr, e = .returned (.tuple #[.pointer a.at, .pointer b.at]) ∧ Lies w' a ∧ Lies w' b ∧ a.list = t.list.take at0.toNat ∧ b.list = t.list.drop at0.toNat ∧ a.bal ∧ b.bal ∧ Below w.heap.size w w' := by
  induction t with
  | nil =>
    intro at0 w hl hb hs h1 h2
    have HL := hide (len_any .nil w hl)
    clear hl hb hs h1 h2
    by_cases h0 : at0 ≤ 0
    · go_enter Try.func44, Try.ntmps44
      go_wp2_with fail
      go_ret2
      exact ⟨.nil, .nil, rfl, trivial, trivial, by simp, by simp, trivial, trivial, Below.refl _ _⟩
    · have h3 : ¬ (at0 < 0) := by omega
      go_enter Try.func44, Try.ntmps44
      go_wp2_with (go_at_call 48; refine HL.out.mono ?_; rintro e w' ⟨rfl, rfl⟩)
      go_ret2
      exact ⟨.nil, .nil, rfl, trivial, trivial, by simp, by simp, trivial, trivial, Below.refl _ _⟩
  | node bt l x r ihl ihr =>
    intro at0 w hl hb hs h1 h2
    by_cases h0 : at0 ≤ 0
    · have HL := hide hl
      have HB := hide hb
      have e0 : at0.toNat = 0 := by omega
      clear hl hb hs h1 h2 ihl ihr
      go_enter Try.func44, Try.ntmps44
      go_wp2_with fail
      go_ret2
      exact ⟨.nil, .node bt l x r, rfl, trivial, HL.out, by rw [e0]; rfl, by rw [e0]; rfl, trivial, HB.out, Below.refl _ _⟩
    · have HLN := hide (len_any (.node bt l x r) w hl)
      obtain ⟨z, hz⟩ : ∃ z, (Tr.node bt l x r).size = z := ⟨_, rfl⟩
      rw [hz] at HLN hs
      rw [Tr.at_node] at HLN ⊢
      by_cases hge : (z : Int) ≤ at0
      · have HL := hide hl
        have HB := hide hb
        have e0 : z ≤ at0.toNat := by omega
        have HE := hide e0
        have HZ := hide hz
        have h3 : ¬ (at0 < (z : Int)) := by omega
        clear hl hb hs h1 h2 ihl ihr e0 hz
        go_enter Try.func44, Try.ntmps44
        go_wp2_with (go_at_call 48; refine HLN.out.mono ?_; rintro e w' ⟨rfl, rfl⟩)
        go_ret2
        have hze : (Tr.node bt l x r).list.length ≤ at0.toNat := by rw [show (Tr.node bt l x r).list.length = z from HZ.out]; exact HE.out
        exact ⟨.node bt l x r, .nil, rfl, HL.out, trivial, by rw [List.take_of_length_le hze], by rw [List.drop_eq_nil_of_le hze]; rfl, HB.out, trivial, Below.refl _ _⟩
      · have htop := hl.top (by rw [hz]; omega)
        obtain ⟨c0, c1, c2, c3, c4, c5, hll, hlr⟩ := hl
        obtain ⟨hbl, hbr, _, _⟩ := hb
        rw [Tr.size_node] at hz
        obtain ⟨pl, hpl⟩ : ∃ pl, l.at = pl := ⟨_, rfl⟩
        obtain ⟨pr, hpr⟩ : ∃ pr, r.at = pr := ⟨_, rfl⟩
        have HLL := hide (fun w' (hk : KO w w') => len_any l w' (hll.below hk))
        by_cases hle : at0 ≤ (l.size : Int)
        · have HI := hide (fun w' (hk : KO w w') => ihl at0 w' (hll.below hk) hbl (by omega) h1 h2)
          have HJ := hide (fun w' (hk : KO w w') (b' : Tr) (hb' : Lies w' b') (hbb : b'.bal) (hls : b'.list = l.list.drop at0.toNat) => join_any b' r bt x w' hb' hbb (hlr.below hk) hbr (htop.below hk) (by unfold Tr.size; rw [hls, List.length_drop]; unfold Tr.size at hz; omega))
          rw [hpl] at c0 HI HLL
          rw [hpr] at c1 HJ
          have HLE := hide hle
          have HZ := hide hz
          have hle' := hle
          have h3 : ¬ ((z : Int) ≤ at0) := hge
          clear hs h1 h2 ihl ihr htop c2 c3 c4 c5 hll hlr hbl hbr hpl hpr hz hge
          go_enter Try.func44, Try.ntmps44
          go_wp2_with (go_at_call 48; refine HLN.out.mono ?_; rintro e w' ⟨rfl, rfl⟩)
          go_quiet (fail)
          have hk1 : KO w (w.drewN nq) := Below.drewN w nq
          go_wp2_with (first
            | (go_at_call_of 48 pl; refine (HLL.out _ hk1).mono ?_; rintro e w' ⟨rfl, rfl⟩)
            | (go_at_call 44; refine (HI.out _ hk1).mono ?_; rintro e w2 ⟨a2, b2, rfl, hla2, hlb2, hi2, hj2, hba2, hbb2, hb2⟩; have hk2 : KO w w2 := KO.on hk1 hb2; have HA2 := hide hla2; have HB2 := hide hlb2; have HI2 := hide hi2; have HJ2 := hide hj2; clear hla2 hlb2 hi2 hj2)
            | (go_at_call 58; refine (HJ.out _ hk2 b2 HB2.out hbb2 HJ2.out).mono ?_; rintro e w3 ⟨T, rfl, hl3, hi3, hbal3, hb3⟩; have hk3 : KO w w3 := KO.on hk2 hb3))
          go_ret2
          refine ⟨a2, T, rfl, HA2.out.below hb3, hl3, ?_, ?_, hba2, hbal3, hk3⟩
          · rw [HI2.out, Tr.list_node, take_left (by have := HLE.out; unfold Tr.size at this; omega)]
          · rw [hi3, HJ2.out, Tr.list_node, drop_left (by have := HLE.out; unfold Tr.size at this; omega)]
        · have hk0 : ∃ k : Nat, at0 = (l.size : Int) + 1 + (k : Int) := ⟨(at0 - (l.size : Int) - 1).toNat, by omega⟩
          obtain ⟨k, hk⟩ := hk0
          have HI := hide (fun w' (hk : KO w w') => ihr (k : Int) w' (hlr.below hk) hbr (by omega) (by omega) (by omega))
          have HJ := hide (fun w' (hk' : KO w w') (a' : Tr) (ha' : Lies w' a') (hba : a'.bal) (hls : a'.list = r.list.take ((k : Int)).toNat) => join_any l a' bt x w' (hll.below hk') hbl ha' hba (htop.below hk') (by
            have : a'.size ≤ r.size := by unfold Tr.size; rw [hls, List.length_take]; omega
            omega))
          rw [hpl] at c0 HJ HLL
          rw [hpr] at c1 HI
          have HZ := hide hz
          have HK := hide hk
          have h3 : ¬ ((z : Int) ≤ at0) := hge
          have e1 : wrap64 (at0 - (l.size : Int)) = at0 - (l.size : Int) := w64_small (by omega) (by omega)
          have e2 : wrap64 (at0 - (l.size : Int) - 1) = (k : Int) := by rw [w64_small (by omega) (by omega)]; omega
          have h4 : ¬ (at0 ≤ (l.size : Int)) := hle
          clear hs h1 h2 ihl ihr htop c2 c3 c4 c5 hll hlr hbl hbr hpl hpr hz hge hk hle
          go_enter Try.func44, Try.ntmps44
          go_wp2_with (go_at_call 48; refine HLN.out.mono ?_; rintro e w' ⟨rfl, rfl⟩)
          go_quiet (fail)
          have hk1 : KO w (w.drewN nq) := Below.drewN w nq
          go_wp2_with (first
            | (go_at_call_of 48 pl; refine (HLL.out _ hk1).mono ?_; rintro e w' ⟨rfl, rfl⟩)
            | (go_at_call 44; refine (HI.out _ hk1).mono ?_; rintro e w2 ⟨a2, b2, rfl, hla2, hlb2, hi2, hj2, hba2, hbb2, hb2⟩; have hk2 : KO w w2 := KO.on hk1 hb2; have HA2 := hide hla2; have HB2 := hide hlb2; have HI2 := hide hi2; have HJ2 := hide hj2; clear hla2 hlb2 hi2 hj2)
            | (go_at_call 58; refine (HJ.out _ hk2 a2 HA2.out hba2 HI2.out).mono ?_; rintro e w3 ⟨T, rfl, hl3, hi3, hbal3, hb3⟩; have hk3 : KO w w3 := KO.on hk2 hb3))
          go_ret2
          have hat : at0.toNat = l.list.length + 1 + ((k : Int)).toNat := by have := HK.out; unfold Tr.size at this; omega
          refine ⟨T, b2, rfl, hl3, HB2.out.below hb3, ?_, ?_, hbal3, hbb2, hk3⟩
          · rw [hi3, HI2.out, Tr.list_node, hat, take_right]
          · rw [HJ2.out, Tr.list_node, hat, drop_right]
theorem concat_any (a b : Tr) (w : World) (ha : Lies w a) (hba : a.bal) (hb : Lies w b) (hbb : b.bal) (hs : a.size + b.size ≤ 1152921504606846976) :
    Calls Try.prog 45 #[.pointer a.at, .pointer b.at] w fun e w' => ∃ T : Tr, e = .returned (.pointer T.at) ∧ Lies w' T ∧ T.list = a.list ++ b.list ∧ T.bal ∧ Below w.heap.size w w' := by
  cases a with
  | nil =>
    obtain ⟨pb, hpb⟩ : ∃ pb, b.at = pb := ⟨_, rfl⟩
    have HP := hide hpb
    have HB := hide hb
    rw [Tr.at_nil, hpb]
    clear ha hb hpb hs
    go_enter Try.func45, Try.ntmps45
    go_wp2_with fail
    go_ret
    exact ⟨b, by rw [HP.out]; rfl, HB.out, rfl, hbb, Below.refl _ _⟩
  | node ba l x r =>
    cases b with
    | nil =>
      have HA := hide ha
      have HBA := hide hba
      rw [Tr.at_node, Tr.at_nil]
      clear ha hb hba hbb hs
      go_enter Try.func45, Try.ntmps45
      go_wp2_with fail
      go_ret
      exact ⟨.node ba l x r, rfl, HA.out, by simp, HBA.out, Below.refl _ _⟩
    | node bb l2 y r2 =>
      have HLN := hide (len_any (.node ba l x r) w ha)
      obtain ⟨z, hz⟩ : ∃ z, (Tr.node ba l x r).size = z := ⟨_, rfl⟩
      have hz1 : 0 < z := by rw [← hz, Tr.size_node]; omega
      rw [hz] at HLN hs
      have HSP := hide (split_any (.node ba l x r) ((z : Int) - 1) w ha hba (by omega) (by omega) (by omega))
      have e1 : wrap64 ((z : Int) - 1) = (z : Int) - 1 := w64_small (by omega) (by omega)
      have HB := hide hb
      have HBB := hide hbb
      have HS := hide hs
      have HZ := hide hz
      have HZ1 := hide hz1
      rw [Tr.at_node] at HLN HSP ⊢
      rw [Tr.at_node]
      clear ha hba hb hbb hs hz hz1
      go_enter Try.func45, Try.ntmps45
      go_wp2_with (go_at_call 48; refine HLN.out.mono ?_; rintro e w' ⟨rfl, rfl⟩)
      refine HSP.out.mono ?_
      rintro e w1 ⟨a1, b1, rfl, hla, hlb, hia, hib, hba1, hbb1, hb1⟩
      have hzz : (Tr.node ba l x r).list.length = z := HZ.out
      have hz0 := HZ1.out
      have h1 : b1.size = 1 := by unfold Tr.size; rw [hib, List.length_drop, hzz]; omega
      obtain ⟨bl, y1, rfl⟩ := Tr.len_one h1
      have hlist : a1.list ++ [y1] = (Tr.node ba l x r).list := by
        have : (Tr.node bl .nil y1 .nil).list = [y1] := rfl
        rw [← this, hia, hib, List.take_append_drop]
      have ha1 : a1.size = z - 1 := by unfold Tr.size; rw [hia, List.length_take, hzz]; omega
      have hsz := HS.out
      have HJ := hide (join_any a1 (.node bb l2 y r2) bl y1 w1 hla hba1 (HB.out.below hb1) HBB.out (hlb.top (by simp)) (by omega))
      rw [Tr.at_node] at HJ
      obtain ⟨pa, hpa⟩ : ∃ pa, a1.at = pa := ⟨_, rfl⟩
      rw [hpa] at HJ ⊢
      rw [Tr.at_node]
      have HLI := hide hlist
      clear hla hlb hia hib h1 ha1 hsz hpa hzz hz0 hlist
      go_wp2_with (go_at_call 58; refine HJ.out.mono ?_; rintro e w2 ⟨T, rfl, hl2, hi2, hbal2, hb2⟩)
      go_ret
      refine ⟨T, rfl, hl2, ?_, hbal2, hb1.trans (hb2.mono hb1.size)⟩
      rw [hi2, ← HLI.out]; simp
end Go.Proofs.Yteiljaecaahonaa
