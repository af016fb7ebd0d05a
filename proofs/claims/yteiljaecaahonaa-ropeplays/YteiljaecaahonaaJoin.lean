/- graft, join, split, concat: trees joined and parted. -/
import Derived.Test.YteiljaecaahonaaClimb
import Derived.Deep.LoopGhost
import Derived.Laws.AppendOwn
namespace Go.Proofs.Yteiljaecaahonaa
open Go.RowKit
set_option linter.unusedVariables false
set_option maxHeartbeats 2000000
set_option maxRecDepth 100000
namespace Tr
theorem high_small {t : Tr} (h : t.bal) (hs : t.size ≤ 4611686018427387904) : t.high ≤ 127 := by
  rcases Nat.lt_or_ge 127 t.high with hh | hh
  · have h1 := pow_le h
    have h2 : 2 ^ 64 ≤ 2 ^ (t.high / 2) := Nat.pow_le_pow_right (by omega) (by omega)
    have h3 : (2 : Nat) ^ 64 = 18446744073709551616 := by decide
    omega
  · exact hh
theorem up_high (q c) (fs : List Fr) : c.high + fs.length ≤ (up q c fs).high := by
  induction fs generalizing c with
  | nil => exact Nat.le_refl _
  | cons f fs ih =>
    have h1 := ih (mk q f.1 c f.2.1 f.2.2)
    rw [mk_high'] at h1
    rw [up, List.length_cons]
    omega
theorem up_far (q : Bool) (b : Nat) (c : Tr) (x : Int) (far : Tr) (fs : List Fr) : up q (mk q b c x far) fs = up q c ((b, x, far) :: fs) := rfl
end Tr
theorem prow_of_owns {w : World} {base e n : Nat} {v : Value} {ps : List (Option Addr)} (hn : n ≤ 4611686018427387904) (h : w.ownsRow base e 1 v n (ps.map Value.pointer)) : ∃ ao cap, v = .slice ao n cap ∧ PRow w ao n ps := by
  have hl : ps.length = n := by have := h.1; simpa using this
  rcases h.2 with ⟨rfl, rfl⟩ | ⟨g, cap, cur, rfl, hb, hg, hn', hc, hs, ht⟩
  · exact ⟨none, 0, rfl, hl, by omega, fun h0 => by omega⟩
  · refine ⟨_, cap, rfl, hl, hn, fun h0 => ⟨g, 0, rfl, fun i hi => ?_⟩⟩
    rw [Nat.zero_add, h.cellAt i (by omega), List.getElem?_map, List.getElem?_eq_getElem (by omega)]
    simp [List.getD, List.getElem?_eq_getElem (show i < ps.length by omega)]
theorem info35 : (Try.prog.info? 35).map (fun i => (i.zero, i.size, i.bytes)) = some (some (.pointer none), 1, 8) := by kernel_rfl
theorem pathOf_cons (f : Tr.Fr) (fs : List Tr.Fr) : pathOf (f :: fs) = pathOf fs ++ [some ⟨f.1, 0, none⟩] := by simp [pathOf]
set_option maxHeartbeats 4000000 in
theorem graft_any (q : Bool) (H low : Tr) (bm : Nat) (x : Int) (w : World) (hH : Lies w H) (hbH : H.bal) (hl : Lies w low) (hlb : low.bal) (hm : Top w bm x) (hh : low.high ≤ H.high) (hs : H.size + low.size + 1 ≤ 2305843009213693952) :
    Calls Try.prog 66 #[.int .i64 (sideI q), .pointer H.at, .pointer (some ⟨bm, 0, none⟩), .pointer low.at] w fun e w' =>
      ∃ T : Tr, e = .returned (.pointer T.at) ∧ Lies w' T ∧ T.list = Tr.glue q low.list x H.list ∧ T.bal ∧ Below w.heap.size w w' := by
  obtain ⟨i35, hi, hz0, hz1, hz2⟩ := info_parts info35
  have HI : Hid (Try.prog.info? 35 = some i35) := hi
  have HZ0 := hide hz0
  have HZ1 := hide hz1
  have HZ2 := hide hz2
  have hH127 := Tr.high_small hbH (by omega)
  have hl127 := Tr.high_small hlb (by omega)
  have HH := hide hH
  have HBH := hide hbH
  have HL := hide hl
  have HLB := hide hlb
  have HM := hide hm
  have HS := hide hs
  have HHI := hide hH127
  have e1 : wrap64 ((low.high : Int) + 1) = (low.high : Int) + 1 := w64_small (by omega) (by omega)
  obtain ⟨pl, hpl⟩ : ∃ pl, low.at = pl := ⟨_, rfl⟩
  have HD := hide (fun w' (hk : KO w w') => deep_any low w' (hl.below hk))
  rw [hpl] at HD ⊢
  have HPL := hide hpl
  have HH0 := hide hh
  clear hi hz0 hz1 hz2 hH hbH hl hlb hm hs hH127 hl127 hpl hh
  obtain ⟨s, hsd⟩ : ∃ s, sideI q = s := ⟨_, rfl⟩
  have hs0 : 0 ≤ s := by rw [← hsd]; cases q <;> decide
  have hs1 : s < 2 := by rw [← hsd]; cases q <;> decide
  have HN := hide (show nOff q = s.toNat from by rw [← hsd]; cases q <;> rfl)
  have HSD := hide hsd
  rw [hsd]
  clear hsd
  go_enter Try.func66, Try.ntmps66
  go_wp2_with fail
  go_loopg [1, 9] H.high (fun k p v wr => ∃ (c : Tr) (fs : List Tr.Fr), p = .pointer c.at ∧ Hid (H = Tr.up q c fs) ∧ wr.ownsRow w.heap.size 35 1 v fs.length ((pathOf fs).map Value.pointer) ∧ Hid (low.high ≤ c.high) ∧ Hid (c.high ≤ k) ∧ KO w wr)
  case atStart => exact ⟨H, [], rfl, rfl, World.ownsRow_nil _ _ _ _, HH0.out, Nat.le_refl _, KO.refl _⟩
  case round =>
    obtain ⟨c, fs, rfl, hup, hown, hlc, hck, hkr⟩ := hrel
    have hcl : Lies w c := lies_up (by rw [← hup.out]; exact HH.out)
    have hcb : c.bal := Tr.up_bal (by rw [← hup.out]; exact HBH.out)
    have HDC := hide (deep_any c wr (hcl.below hkr))
    have hfl : c.high + fs.length ≤ 127 := by have := Tr.up_high q c fs; rw [← hup.out] at this; have := HHI.out; omega
    by_cases hgo : low.high + 1 < c.high
    · have e2 : (low.high : Int) + 1 < (c.high : Int) := by omega
      cases c with
      | nil => simp at hgo
      | node b l y r =>
        obtain ⟨near, far, hmk⟩ := Tr.node_mk q b l y r
        rw [hmk] at hcl hcb HDC hup hlc hck hfl hgo e2 ⊢
        rw [Tr.at_mk] at HDC ⊢
        obtain ⟨cn, cf, hln, hlf, hbl⟩ := hcl.mk_cells
        rw [HN.out] at cn
        obtain ⟨pn, hpn⟩ : ∃ pn, near.at = pn := ⟨_, rfl⟩
        rw [hpn] at cn
        obtain ⟨z, hz⟩ : ∃ z, (Tr.mk q b near y far).high = z := ⟨_, rfl⟩
        rw [hz] at HDC e2
        have HF := hide hfl
        have HG := hide hgo
        have HCB := hide hcb
        have HPN := hide hpn
        have HZ := hide hz
        have HCN := hide cn
        clear hcl hcb hmk hlf hln cf hfl hgo hpn hz cn
        go_wp2_with (first
          | (go_at_call_of 50 b; refine HDC.out.mono ?_; rintro e w' ⟨rfl, rfl⟩)
          | (go_at_call_of 50 pl; refine (HD.out _ hkr).mono ?_; rintro e w' ⟨rfl, rfl⟩)
          | (at_builtin; refine wpList_append_own _ rfl _ _ 113 rfl w.heap.size 35 i35 (.pointer none) 1 8 Try.underlying113 HI.out HZ0.out HZ1.out HZ2.out rfl (by decide) _ _ _ rfl (hown.alloc _) ⟨wr.heap.size, 0, none⟩ 1 1 [.pointer (some ⟨b, 0, none⟩)] rfl rfl ?c1 ?c2 ?c3 ?c4 ?c5 ?_))
        case c1 => intro j u hj; rcases j with _ | j <;> simp at hj; subst hj; simp [Addr.add]
        case c2 => simp [Value.oneCell']
        case c3 => have := HF.out; unfold maxLen; omega
        case c4 => have := HF.out; omega
        case c5 => have := Below.size hkr; simp; omega
        intro v' w1 hown1 hgrow _
        have hk1 : KO w w1 := Below.grown (KO.alloc hkr _) hgrow (by have := Below.size hkr; simp; omega) (fun k hk => by
          rcases hown.2 with ⟨h, _⟩ | ⟨g, cap, cur, h, hg, _⟩
          · rw [h] at hk; simp [Value.ownBlock] at hk
          · rw [h] at hk; simp [Value.ownBlock] at hk; omega)
        have cn1 : w1.cell? ⟨b, s.toNat, none⟩ = some (.pointer pn) := (Below.cell hk1 (by exact hbl)).trans HCN.out
        obtain ⟨g1, cap1, rfl⟩ := ownsRow_succ hown1
        go_wp2
        have hb := (Tr.mk_bal ..).1 HCB.out
        have hmh := Tr.mk_high' q b near y far
        have hg := HG.out
        have hck' := hck.out
        go_roundg near.high
        case measure => omega
        case rel =>
          refine ⟨near, (b, y, far) :: fs, by rw [HPN.out], hup.out, ?_, ?_, Nat.le_refl _, hk1⟩
          · rw [pathOf_cons, List.map_append]; exact hown1
          · show low.high ≤ near.high; omega
    · have e2 : ¬ ((low.high : Int) + 1 < (c.high : Int)) := by omega
      have hlc' := hlc.out
      obtain ⟨ao, cap, rfl, hrow⟩ := prow_of_owns (by omega) hown
      have hcs : c.size ≤ H.size := by have := Tr.up_size q c fs; rw [← hup.out] at this; exact this
      have hsz := HS.out
      have HO := hide (over_any q bm x low c wr (HM.out.below hkr) (HL.out.below hkr) (hcl.below hkr) (by omega))
      have HCL := hide (fun w1 (hb : Below wr.heap.size wr w1) b' (h' : Lies w1 (Tr.mk q b' low x c)) => climb_any q c (Tr.mk q b' low x c) fs w1 ao fs.length cap (by rw [← hup.out]; exact HH.out.below (KO.on hkr hb)) (by rw [← hup.out]; exact HBH.out) h'
        ((Tr.mk_bal ..).2 ⟨HLB.out, hcb, by omega, by omega⟩) (by rw [Tr.mk_high']; omega) (by rw [Tr.mk_high']; omega) (hrow.below hb) (by rw [← hup.out, Tr.mk_size]; omega))
      rw [HSD.out, HPL.out] at HO
      rw [HSD.out] at HCL
      obtain ⟨pc, hpc⟩ : ∃ pc, c.at = pc := ⟨_, rfl⟩
      rw [hpc] at HO HDC ⊢
      have HC := hide hcl
      have HCB := hide hcb
      clear hcl hcb hfl hgo hlc' hown hrow hcs hsz hpc
      go_wp2_with (first
        | (go_at_call_of 50 pc; refine HDC.out.mono ?_; rintro e w' ⟨rfl, rfl⟩)
        | (go_at_call_of 50 pl; refine (HD.out _ hkr).mono ?_; rintro e w' ⟨rfl, rfl⟩)
        | (go_at_call 54; refine HO.out.mono ?_; rintro e w1 ⟨b1, rfl, hl1, hb1⟩)
        | (go_at_call 69; refine Calls.mono (by have h := HCL.out w1 hb1 b1 hl1; rw [Tr.at_mk] at h; exact h) ?_; rintro e w2 ⟨T, rfl, hl2, hls2, hbal2, h1, h2, hb2⟩))
      go_ret
      refine ⟨T, rfl, hl2, ?_, hbal2, KO.on (KO.on hkr hb1) hb2⟩
      rw [hls2, Tr.mk_list, Tr.upl_glue, ← Tr.up_list, ← hup.out]
theorem join_any (a b : Tr) (bm : Nat) (x : Int) (w : World) (ha : Lies w a) (hba : a.bal) (hb : Lies w b) (hbb : b.bal) (hm : Top w bm x) (hs : a.size + b.size + 1 ≤ 2305843009213693952) :
    Calls Try.prog 58 #[.pointer a.at, .pointer (some ⟨bm, 0, none⟩), .pointer b.at] w fun e w' =>
      ∃ T : Tr, e = .returned (.pointer T.at) ∧ Lies w' T ∧ T.list = a.list ++ x :: b.list ∧ T.bal ∧ Below w.heap.size w w' := by
  have HD1 := hide (deep_any a w ha)
  have HD2 := hide (deep_any b w hb)
  obtain ⟨pa, hpa⟩ : ∃ pa, a.at = pa := ⟨_, rfl⟩
  obtain ⟨pb, hpb⟩ : ∃ pb, b.at = pb := ⟨_, rfl⟩
  by_cases hgt : b.high < a.high
  · have HG := hide (graft_any true a b bm x w ha hba hb hbb hm (by omega) hs)
    have e2 : (b.high : Int) < (a.high : Int) := by omega
    rw [hpa] at HD1 HG ⊢
    rw [hpb] at HD2 HG ⊢
    clear ha hba hb hbb hm hs hgt hpa hpb
    rw [sideI_t] at HG
    go_enter Try.func58, Try.ntmps58
    go_wp2_with (first
      | (go_at_call_of 50 pa; refine HD1.out.mono ?_; rintro e w' ⟨rfl, rfl⟩)
      | (go_at_call_of 50 pb; refine HD2.out.mono ?_; rintro e w' ⟨rfl, rfl⟩)
      | (go_at_call 66; refine HG.out.mono ?_; rintro e w1 ⟨T, rfl, hl1, hls1, hb1, hB1⟩))
    go_ret
    exact ⟨T, rfl, hl1, hls1, hb1, hB1⟩
  · have HG := hide (graft_any false b a bm x w hb hbb ha hba hm (by omega) (by omega))
    have e2 : ¬ ((b.high : Int) < (a.high : Int)) := by omega
    rw [hpa] at HD1 HG ⊢
    rw [hpb] at HD2 HG ⊢
    clear ha hba hb hbb hm hs hgt hpa hpb
    rw [sideI_f] at HG
    go_enter Try.func58, Try.ntmps58
    go_wp2_with (first
      | (go_at_call_of 50 pa; refine HD1.out.mono ?_; rintro e w' ⟨rfl, rfl⟩)
      | (go_at_call_of 50 pb; refine HD2.out.mono ?_; rintro e w' ⟨rfl, rfl⟩)
      | (go_at_call 66; refine HG.out.mono ?_; rintro e w1 ⟨T, rfl, hl1, hls1, hb1, hB1⟩))
    go_ret
    exact ⟨T, rfl, hl1, hls1, hb1, hB1⟩
end Go.Proofs.Yteiljaecaahonaa
