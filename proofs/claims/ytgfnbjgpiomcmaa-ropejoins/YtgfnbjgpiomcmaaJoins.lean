/- RopeJoins: what is split is joined again; what is inserted is deleted again; what is deleted is inserted again. -/
import Derived.Test.YtgfnbjgpiomcmaaWk
namespace Go.Proofs.Ytgfnbjgpiomcmaa
open Go.RowKit
set_option linter.unusedVariables false
set_option maxHeartbeats 4000000
set_option maxRecDepth 100000
theorem RopeJoins_walk (w : World) (a0 : Option Addr) (n0 cap0 : Nat) (l : List Int) (h0 : Row .i32 w a0 n0 cap0 l) (hf0 : ∀ x ∈ l, (Lit.int .i32 x).wf = true) (hs0 : n0 * 4 ≤ 140737488351232)
    (at0 : Int) (hat : (Lit.int .i64 at0).wf = true)
    (a1 : Option Addr) (n1 cap1 : Nat) (m : List Int) (h1 : Row .i32 w a1 n1 cap1 m) (hf1 : ∀ x ∈ m, (Lit.int .i32 x).wf = true) (hs1 : n1 * 4 ≤ 140737488351232) :
    Calls Try.prog 6 #[.slice a0 n0 cap0, .int .i64 at0, .slice a1 n1 cap1] w fun e w' => e = .returned (.bool true) ∧ Below w.heap.size w w' := by
  have HW := hide (works_any w)
  by_cases hbig : n0 ≤ 2000 ∧ n1 ≤ 2000
  · obtain ⟨hb0, hb1⟩ := hbig
    obtain ⟨i21, hi21, hz0, hz1, hz2⟩ := info_parts info21
    have e0 : ¬ ((2000 : Int) < (n0 : Int)) := by omega
    have e1 : ¬ ((2000 : Int) < (n1 : Int)) := by omega
    obtain ⟨n01, hn01⟩ : ∃ n01, n0 + 1 = n01 := ⟨_, rfl⟩
    have HNEW := hide (fun w' (hk : KO w w') => new_any a0 n0 cap0 l w' (h0.below hk) hf0 (by omega))
    have HAM := hide (fun w' => among_any at0 n01 w' hat (by omega) (by omega))
    have hle0 := h0.le
    have hlen0 := h0.len
    have hlen1 := h1.len
    have H0 := hide h0
    have H1 := hide h1
    have HB0 := hide hb0
    have HB1 := hide hb1
    have HN01 := hide hn01
    have HL0 := hide hlen0
    have HL1 := hide hlen1
    have HI21 := hide hi21
    have HLE := hide hle0
    clear h0 h1 hs0 hs1 hb0 hb1 hn01 hlen0 hlen1 hi21 hz0 hz1 hz2 hle0
    go_enter Try.func6, Try.ntmps6
    go_wp2_with (go_at_call 24; refine HW.out.mono ?_; rintro e w1 ⟨rfl, hb1⟩)
    have k1 : KO w w1 := hb1
    refine (HNEW.out w1 k1).mono ?_
    rintro e w2 ⟨b, t, rfl, hr, hl, hb2⟩
    have k2 : KO w w2 := KO.on k1 hb2
    have hsz : t.size = n0 := by unfold Tr.size; rw [hl]; exact HL0.out
    obtain ⟨k, hk, hAM⟩ := HAM.out w2
    rw [show ((n01 : Nat) : Int) = (n0 : Int) + 1 from by have := HN01.out; omega] at hAM
    have HA := hide hAM
    have hk0 : k ≤ n0 := by have := HN01.out; omega
    have hB0 := HB0.out
    have HSP := hide (Split_ok b t (k : Int) w2 hr (by omega) (by omega) (by omega))
    have HR := hide hr
    have HLI := hide hl
    have HSZ := hide hsz
    have HK := hide hk0
    clear hr hl hb2 hb1 hsz hk hAM hk0 hB0 HNEW HAM HW
    go_wp2_with (go_at_call 25; refine HA.out.mono ?_; rintro e w' ⟨rfl, rfl⟩)
    refine HSP.out.mono ?_
    rintro e w3 ⟨ba, bb, ta, tb, rfl, hra, hrb, hla, hlb, hb3⟩
    have k3 : KO w w3 := KO.on k2 hb3
    rw [Int.toNat_natCast] at hla hlb
    have hsa : ta.size = k := by unfold Tr.size; rw [hla, List.length_take]; have := HSZ.out; unfold Tr.size at this; have := HK.out; omega
    have hsb : tb.size = n0 - k := by unfold Tr.size; rw [hlb, List.length_drop]; have := HSZ.out; unfold Tr.size at this; omega
    have hbr : ta.brk + tb.brk = t.brk := by unfold Tr.brk; rw [hla, hlb, ← seps_append, List.take_append_drop]
    have HR3 := hide (HR.out.below hb3)
    have HLA := hide (Len_rope ba ta w3 hra)
    rw [hsa] at HLA
    have HBA := hide (Breaks_rope ba ta w3 hra)
    have HBB := hide (Breaks_rope bb tb w3 hrb)
    have HBT := hide (Breaks_rope b t w3 HR3.out)
    have hszt := HSZ.out
    have hB0 := HB0.out
    have hB1 := HB1.out
    have hkk := HK.out
    have hbt := t.brk_le
    have HE3 := hide (show wrap64 ((ta.brk : Int) + (tb.brk : Int)) = (t.brk : Int) from by rw [w64_small (by omega) (by omega)]; omega)
    have HC := hide (Concat_ok ba bb ta tb w3 hra hrb (by omega))
    have HIN := hide (fun w' (hk : KO w w') (hr : IsRope w' b t) => Insert_ok b t (k : Int) a1 n1 cap1 m w' hr (H1.out.below hk) hf1 (by omega) (by omega) (by omega))
    have HAB := hide (show ta.list ++ tb.list = l from by rw [hla, hlb, List.take_append_drop]; exact HLI.out)
    clear hra hrb hla hlb hsa hsb hbr hszt hB0 hB1 hkk hbt HSP HA
    have e3 := HE3.out
    go_wp2_with (first
      | (go_at_call 20; refine HLA.out.mono ?_; rintro e w' ⟨rfl, rfl⟩)
      | (go_at_call_of 21 ba; refine HBA.out.mono ?_; rintro e w' ⟨rfl, rfl⟩)
      | (go_at_call_of 21 bb; refine HBB.out.mono ?_; rintro e w' ⟨rfl, rfl⟩)
      | (go_at_call_of 21 b; refine HBT.out.mono ?_; rintro e w' ⟨rfl, rfl⟩))
    clear e3
    refine HC.out.mono ?_
    rintro e w4 ⟨bc, tc, rfl, hrc, hlc, hb4⟩
    have k4 : KO w w4 := KO.on k3 hb4
    have HI4 := hide (HIN.out w4 k4 (HR3.out.below hb4))
    have HRC4 := hide hrc
    have HLC := hide (hlc.trans HAB.out)
    have HR4 := hide (HR3.out.below hb4)
    clear hrc hlc hb4 HIN HC HLA HBA HBB HBT hb3
    go_wp2_with fail
    refine HI4.out.mono ?_
    rintro e w5 ⟨bd, td, rfl, hrd, hld, hb5⟩
    have k5 : KO w w5 := KO.on k4 hb5
    rw [Int.toNat_natCast, HLI.out] at hld
    have hL0 := HL0.out
    have hL1 := HL1.out
    have hkk := HK.out
    have hB0 := HB0.out
    have hB1 := HB1.out
    have hsd : td.size = n0 + n1 := by unfold Tr.size; rw [hld]; simp; omega
    have HE4 := hide (show wrap64 ((k : Int) + (n1 : Int)) = ((k + n1 : Nat) : Int) from by rw [w64_small (by omega) (by omega)]; omega)
    have hdd : (l.take k ++ m ++ l.drop k).take k ++ (l.take k ++ m ++ l.drop k).drop (k + n1) = l := by
      have h1 : (l.take k).length = k := by rw [List.length_take]; omega
      have h2 : (l.take k ++ m).length = k + n1 := by rw [List.length_append, h1, hL1]
      rw [← h2, List.drop_left, List.append_assoc, List.take_append_of_le_length (by omega), List.take_of_length_le (by omega), List.take_append_drop]
    have HDE := hide (Delete_ok bd td (k : Int) ((k + n1 : Nat) : Int) w5 hrd (by omega) (by omega) (by omega) (by omega))
    rw [Int.toNat_natCast, Int.toNat_natCast, hld, hdd] at HDE
    obtain ⟨kn, hkn⟩ : ∃ kn, k + n1 = kn := ⟨_, rfl⟩
    rw [hkn] at HDE HE4
    have e4 := HE4.out
    have HR5 := hide (HR4.out.below hb5)
    have HRC5 := hide (HRC4.out.below hb5)
    clear hrd hld hL0 hL1 hkk hB0 hB1 hsd hdd hkn hb5 HI4 HR4 HRC4
    go_wp2_with fail
    clear e4
    refine HDE.out.mono ?_
    rintro e w6 ⟨bx, tx, rfl, hrx, hlx, hb6⟩
    have k6 : KO w w6 := KO.on k5 hb6
    have hszt := HSZ.out
    have hkk := HK.out
    have hB0 := HB0.out
    have HDY := hide (Delete_ok b t 0 (k : Int) w6 (HR5.out.below hb6) (by omega) (by omega) (by omega) (by omega))
    have HR6 := hide (HR5.out.below hb6)
    have HRC6 := hide (HRC5.out.below hb6)
    have HRX6 := hide hrx
    have HLX := hide hlx
    clear hrx hlx hb6 hszt hkk hB0 HDE HR5 HRC5
    go_wp2_with fail
    refine HDY.out.mono ?_
    rintro e w7 ⟨by0, ty, rfl, hry, hly, hb7⟩
    have k7 : KO w w7 := KO.on k6 hb7
    rw [Int.toNat_natCast, HLI.out] at hly
    have hly2 : ty.list = l.drop k := by rw [hly]; simp
    have hkk := HK.out
    have hL0 := HL0.out
    have hB0 := HB0.out
    have hLE := HLE.out
    have hsl := fun w' => run_upto Try.underlying22 HI21.out cells21 a0 n0 cap0 k (by omega) w'
    have HIZ := hide (Insert_ok by0 ty 0 a0 k cap0 (l.take k) w7 hry ((H0.out.below k7).take hkk) (fun y hy => hf0 y (List.mem_of_mem_take hy)) (by omega) (by omega) (by unfold Tr.size; rw [hly2, List.length_drop]; omega))
    have hzz : ty.list.take (0 : Int).toNat ++ l.take k ++ ty.list.drop (0 : Int).toNat = l := by rw [hly2]; simp
    rw [hzz] at HIZ
    have HR7 := hide (HR6.out.below hb7)
    have HRC7 := hide (HRC6.out.below hb7)
    have HRX7 := hide (HRX6.out.below hb7)
    clear hry hly hly2 hb7 hkk hL0 hB0 hLE hzz HDY HR6 HRC6 HRX6
    go_wp2_with fail
    refine HIZ.out.mono ?_
    rintro e w8 ⟨bz, tz, rfl, hrz, hlz, hb8⟩
    have k8 : KO w w8 := KO.on k7 hb8
    have hL0 := HL0.out
    have hB0 := HB0.out
    have sz : ∀ t' : Tr, t'.list = l → t'.size = n0 := fun t' h => by unfold Tr.size; rw [h]; exact hL0
    have mk : ∀ (b' : Nat) (t' : Tr), IsRope w8 b' t' → t'.list = l → ∀ w', KO w8 w' → Calls Try.prog 27 #[.pointer (some ⟨b', 0, none⟩)] w' fun e w'' => ∃ ao cap, e = .returned (.slice ao n0 cap) ∧ Row .i32 w'' ao n0 cap l ∧ Below w'.heap.size w' w'' := fun b' t' hr hl w' hk => by
      have := all_any b' t' w' (hr.below hk) (by rw [sz t' hl]; omega)
      rw [sz t' hl, hl] at this
      exact this
    have HA1 := hide (mk bc tc (HRC7.out.below hb8) HLC.out)
    have HA2 := hide (mk bx tx (HRX7.out.below hb8) HLX.out)
    have HA3 := hide (mk bz tz hrz hlz)
    have HA4 := hide (mk b t (HR7.out.below hb8) HLI.out)
    clear hrz hlz hb8 hL0 hB0 sz mk HIZ hsl HR7 HRC7 HRX7
    go_wp2_with fail
    refine (HA1.out _ (KO.refl w8)).mono ?_
    rintro e u1 ⟨c1, d1, rfl, hr1, hc1⟩
    have q1 : KO w8 u1 := KO.on (KO.refl w8) hc1
    have HS1 := hide (same_yes c1 a0 n0 d1 cap0 l u1 hr1 (H0.out.below (KO.on k8 q1)))
    clear hr1 hc1
    go_wp2_with (go_at_call 26; refine HS1.out.mono ?_; rintro e x1 ⟨rfl, v1, rfl⟩)
    have r1 : KO w8 (u1.drewN v1) := KO.on q1 (Below.drewN _ _)
    refine (HA2.out _ r1).mono ?_
    rintro e u2 ⟨c2, d2, rfl, hr2, hc2⟩
    have q2 : KO w8 u2 := KO.on r1 hc2
    have HS2 := hide (same_yes c2 a0 n0 d2 cap0 l u2 hr2 (H0.out.below (KO.on k8 q2)))
    clear hr2 hc2
    go_wp2_with (go_at_call 26; refine HS2.out.mono ?_; rintro e x2 ⟨rfl, v2, rfl⟩)
    have r2 : KO w8 (u2.drewN v2) := KO.on q2 (Below.drewN _ _)
    refine (HA3.out _ r2).mono ?_
    rintro e u3 ⟨c3, d3, rfl, hr3, hc3⟩
    have q3 : KO w8 u3 := KO.on r2 hc3
    have HS3 := hide (same_yes c3 a0 n0 d3 cap0 l u3 hr3 (H0.out.below (KO.on k8 q3)))
    clear hr3 hc3
    go_wp2_with (go_at_call 26; refine HS3.out.mono ?_; rintro e x3 ⟨rfl, v3, rfl⟩)
    have r3 : KO w8 (u3.drewN v3) := KO.on q3 (Below.drewN _ _)
    refine (HA4.out _ r3).mono ?_
    rintro e u4 ⟨c4, d4, rfl, hr4, hc4⟩
    have q4 : KO w8 u4 := KO.on r3 hc4
    have HS4 := hide (same_yes c4 a0 n0 d4 cap0 l u4 hr4 (H0.out.below (KO.on k8 q4)))
    clear hr4 hc4
    go_wp2_with (go_at_call 26; refine HS4.out.mono ?_; rintro e x4 ⟨rfl, v4, rfl⟩)
    have r4 : KO w8 (u4.drewN v4) := KO.on q4 (Below.drewN _ _)
    go_ret
    exact ⟨rfl, KO.on k8 r4⟩
  · have HB := hide hbig
    clear h0 h1 hf0 hf1 hs0 hs1 hat hbig
    by_cases h2 : (2000 : Int) < (n0 : Int)
    · go_enter Try.func6, Try.ntmps6
      go_wp2_with (go_at_call 24; refine HW.out.mono ?_; rintro e w1 ⟨rfl, hb1⟩)
      go_ret
      exact ⟨rfl, hb1⟩
    · have h3 : (2000 : Int) < (n1 : Int) := by have := HB.out; omega
      go_enter Try.func6, Try.ntmps6
      go_wp2_with (go_at_call 24; refine HW.out.mono ?_; rintro e w1 ⟨rfl, hb1⟩)
      go_ret
      exact ⟨rfl, hb1⟩
end Go.Proofs.Ytgfnbjgpiomcmaa
