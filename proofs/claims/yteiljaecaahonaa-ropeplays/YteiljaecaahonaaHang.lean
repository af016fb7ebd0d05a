/- The contract of hang: a node with another tree at a side, turned where that is too high. -/
import Derived.Test.YteiljaecaahonaaOver
namespace Go.Proofs.Yteiljaecaahonaa
open Go.RowKit
set_option linter.unusedVariables false
set_option maxHeartbeats 2000000
set_option maxRecDepth 100000
def nOff (q : Bool) : Nat := if q then 1 else 0
def fOff (q : Bool) : Nat := if q then 0 else 1
theorem nOff_f : nOff false = 0 := rfl
theorem nOff_t : nOff true = 1 := rfl
theorem fOff_f : fOff false = 1 := rfl
theorem fOff_t : fOff true = 0 := rfl
theorem sideI_f : sideI false = 0 := rfl
theorem sideI_t : sideI true = 1 := rfl
theorem cast_gt {a z : Nat} (h : a + 1 < z) : ¬ ((z : Int) ≤ (a : Int) + 1) := by omega
theorem cast_le {a b : Nat} (h : a ≤ b) : (a : Int) ≤ (b : Int) := by omega
theorem cast_nle {a b : Nat} (h : b < a) : ¬ ((a : Int) ≤ (b : Int)) := by omega
theorem Tr.mk_high' (q b near x far) : (Tr.mk q b near x far).high = max near.high far.high + 1 := Tr.mk_high q b near x far
theorem Lies.mk_cells {w : World} {q : Bool} {b : Nat} {near far : Tr} {x : Int} (h : Lies w (Tr.mk q b near x far)) :
    w.cell? ⟨b, nOff q, none⟩ = some (.pointer near.at) ∧ w.cell? ⟨b, fOff q, none⟩ = some (.pointer far.at) ∧ Lies w near ∧ Lies w far ∧ b < w.heap.size := by
  cases q
  · obtain ⟨c0, c1, c2, c3, c4, c5, hl, hr⟩ := h
    exact ⟨c0, c1, hl, hr, by simpa using World.block_lt_of_cell? w _ c0⟩
  · obtain ⟨c0, c1, c2, c3, c4, c5, hl, hr⟩ := h
    exact ⟨c1, c0, hr, hl, by simpa using World.block_lt_of_cell? w _ c0⟩
theorem Tr.glue_assoc (q : Bool) (a : List Int) (x : Int) (b : List Int) (y : Int) (c : List Int) : glue q a x (glue q b y c) = glue q (glue q a x b) y c := by
  cases q <;> simp [glue]
theorem Tr.glue_len (q : Bool) (a : List Int) (x : Int) (b : List Int) : (glue q a x b).length = a.length + b.length + 1 := by
  cases q <;> simp [glue] <;> omega
/-- No turn is wanted. -/
theorem hang_keep (q : Bool) (bt : Nat) (x : Int) (l0 far low : Tr) (w : World) (ht : Lies w (Tr.mk q bt l0 x far)) (hl : Lies w low)
    (hs : (Tr.mk q bt l0 x far).size ≤ 4611686018427387904) (hs2 : low.size + far.size + 1 ≤ 4611686018427387904) (hh : low.high ≤ far.high + 1) :
    Calls Try.prog 70 #[.int .i64 (sideI q), .pointer (some ⟨bt, 0, none⟩), .pointer low.at] w fun e w' =>
      ∃ b', e = .returned (.pointer (some ⟨b', 0, none⟩)) ∧ Lies w' (Tr.mk q b' low x far) ∧ Below w.heap.size w w' := by
  obtain ⟨cn, cf, hln, hlf, hbt⟩ := ht.mk_cells
  have HO := hide (over_any q bt x low far w (ht.mk_top hs) hl hlf hs2)
  have HD1 := hide (deep_any low w hl)
  have HD2 := hide (deep_any far w hlf)
  have hlo := low.high_le
  have hfo := far.high_le
  obtain ⟨p, hp⟩ : ∃ p, low.at = p := ⟨_, rfl⟩
  obtain ⟨r, hr⟩ : ∃ r, far.at = r := ⟨_, rfl⟩
  rw [hp] at HO HD1 ⊢
  rw [hr] at HO HD2 cf
  have e1 : wrap64 ((far.high : Int) + 1) = (far.high : Int) + 1 := w64_small (by omega) (by omega)
  have e2 : (low.high : Int) ≤ (far.high : Int) + 1 := by omega
  clear ht hl hs hs2 hh hlf hln hp hr hlo hfo
  cases q
  all_goals
    simp only [nOff_f, nOff_t, fOff_f, fOff_t, sideI_f, sideI_t] at cn cf HO ⊢
    go_enter Try.func70, Try.ntmps70
    go_wp2_with (first
      | (go_at_call_of 50 p; refine HD1.out.mono ?_; rintro e w' ⟨rfl, rfl⟩)
      | (go_at_call_of 50 r; refine HD2.out.mono ?_; rintro e w' ⟨rfl, rfl⟩)
      | (go_at_call 54; refine HO.out.mono ?_; rintro e w' ⟨b', rfl, hl', hb'⟩))
    go_ret
    exact ⟨b', rfl, hl', hb'⟩
/-- One turn. -/
theorem hang_once (q : Bool) (bt bl : Nat) (x y : Int) (l0 far outer inner : Tr) (w : World) (ht : Lies w (Tr.mk q bt l0 x far)) (hl : Lies w (Tr.mk q bl outer y inner))
    (hs : (Tr.mk q bt l0 x far).size ≤ 4611686018427387904) (hs2 : (Tr.mk q bl outer y inner).size + far.size + 1 ≤ 4611686018427387904) (hh : far.high + 1 < (Tr.mk q bl outer y inner).high) (hi : inner.high ≤ outer.high) :
    Calls Try.prog 70 #[.int .i64 (sideI q), .pointer (some ⟨bt, 0, none⟩), .pointer (some ⟨bl, 0, none⟩)] w fun e w' =>
      ∃ b' b'', e = .returned (.pointer (some ⟨b', 0, none⟩)) ∧ Lies w' (Tr.mk q b' outer y (Tr.mk q b'' inner x far)) ∧ Below w.heap.size w w' := by
  obtain ⟨cn, cf, hln, hlf, hbt⟩ := ht.mk_cells
  obtain ⟨dn, df, hlo, hli, hbl⟩ := hl.mk_cells
  rw [Tr.mk_size] at hs2
  have HO1 := hide (fun w' (hk : KO w w') => over_any q bt x inner far w' ((ht.mk_top hs).below hk) (hli.below hk) (hlf.below hk) (by omega))
  have HO2 := hide (fun w' (hk : KO w w') b2 (h2 : Lies w' (Tr.mk q b2 inner x far)) => over_any q bl y outer (Tr.mk q b2 inner x far) w' ((hl.mk_top (by rw [Tr.mk_size]; omega)).below hk) (hlo.below hk) h2 (by rw [Tr.mk_size]; omega))
  have HD1 := hide (deep_any (Tr.mk q bl outer y inner) w hl)
  have HD2 := hide (deep_any far w hlf)
  have HD3 := hide (fun w' (hk : KO w w') => deep_any inner w' (hli.below hk))
  have HD4 := hide (fun w' (hk : KO w w') => deep_any outer w' (hlo.below hk))
  have hfo := far.high_le
  have hio := inner.high_le
  have hoo := outer.high_le
  rw [Tr.at_mk] at HD1
  obtain ⟨z, hz⟩ : ∃ z, (Tr.mk q bl outer y inner).high = z := ⟨_, rfl⟩
  rw [hz] at HD1 hh
  obtain ⟨r, hr⟩ : ∃ r, far.at = r := ⟨_, rfl⟩
  obtain ⟨pi, hpi⟩ : ∃ pi, inner.at = pi := ⟨_, rfl⟩
  obtain ⟨po, hpo⟩ : ∃ po, outer.at = po := ⟨_, rfl⟩
  rw [hr] at HO1 HD2 cf
  rw [hpi] at HD3 HO1 df
  rw [hpo] at HD4 HO2 dn
  have e1 : wrap64 ((far.high : Int) + 1) = (far.high : Int) + 1 := w64_small (by omega) (by omega)
  have e2 : ¬ ((z : Int) ≤ (far.high : Int) + 1) := cast_gt hh
  have e3 : (inner.high : Int) ≤ (outer.high : Int) := cast_le hi
  have hK : KO w (w.drewN 1) := Below.drewN w 1
  clear ht hl hs hs2 hh hi hlf hln hlo hli hz hr hpi hpo hfo hio hoo
  cases q
  all_goals
    simp only [nOff_f, nOff_t, fOff_f, fOff_t, sideI_f, sideI_t, Tr.at_mk] at cn cf dn df HO1 HO2 ⊢
    go_enter Try.func70, Try.ntmps70
    go_wp2_with (first
      | (go_at_call_of 50 bl; refine HD1.out.mono ?_; rintro e w' ⟨rfl, rfl⟩)
      | (go_at_call_of 50 r; refine HD2.out.mono ?_; rintro e w' ⟨rfl, rfl⟩))
    go_quiet (fail)
    have hk1 : KO w (w.drewN nq) := Below.drewN w nq
    go_wp2_with (first
      | (go_at_call_of 50 pi; refine (HD3.out _ hk1).mono ?_; rintro e w' ⟨rfl, rfl⟩)
      | (go_at_call_of 50 po; refine (HD4.out _ hk1).mono ?_; rintro e w' ⟨rfl, rfl⟩)
      | (go_at_call_of 54 po; refine (HO2.out _ hk2 b2 hl2).mono ?_; rintro e w3 ⟨b3, rfl, hl3, hb3⟩)
      | (go_at_call 54; refine (HO1.out _ hk1).mono ?_; rintro e w2 ⟨b2, rfl, hl2, hb2⟩; have hk2 : KO w w2 := KO.on hk1 hb2))
    go_ret
    exact ⟨b3, b2, rfl, hl3, KO.on hk2 hb3⟩
/-- Two turns. -/
theorem hang_twice (q : Bool) (bt bl bi : Nat) (x y z : Int) (l0 far outer i1 i2 : Tr) (w : World) (ht : Lies w (Tr.mk q bt l0 x far)) (hl : Lies w (Tr.mk q bl outer y (Tr.mk q bi i1 z i2)))
    (hs : (Tr.mk q bt l0 x far).size ≤ 4611686018427387904) (hs2 : (Tr.mk q bl outer y (Tr.mk q bi i1 z i2)).size + far.size + 1 ≤ 4611686018427387904) (hh : far.high + 1 < (Tr.mk q bl outer y (Tr.mk q bi i1 z i2)).high) (hi : outer.high < (Tr.mk q bi i1 z i2).high) :
    Calls Try.prog 70 #[.int .i64 (sideI q), .pointer (some ⟨bt, 0, none⟩), .pointer (some ⟨bl, 0, none⟩)] w fun e w' =>
      ∃ b' b1 b2, e = .returned (.pointer (some ⟨b', 0, none⟩)) ∧ Lies w' (Tr.mk q b' (Tr.mk q b1 outer y i1) z (Tr.mk q b2 i2 x far)) ∧ Below w.heap.size w w' := by
  obtain ⟨cn, cf, hln, hlf, hbt⟩ := ht.mk_cells
  obtain ⟨dn, df, hlo, hli, hbl⟩ := hl.mk_cells
  obtain ⟨gn, gf, hl1, hl2, hbi⟩ := hli.mk_cells
  rw [Tr.mk_size, Tr.mk_size] at hs2
  have HO1 := hide (fun w' (hk : KO w w') => over_any q bl y outer i1 w' ((hl.mk_top (by rw [Tr.mk_size, Tr.mk_size]; omega)).below hk) (hlo.below hk) (hl1.below hk) (by omega))
  have HO2 := hide (fun w' (hk : KO w w') => over_any q bt x i2 far w' ((ht.mk_top hs).below hk) (hl2.below hk) (hlf.below hk) (by omega))
  have HO3 := hide (fun w' (hk : KO w w') b1 b2 (h1 : Lies w' (Tr.mk q b1 outer y i1)) (h2 : Lies w' (Tr.mk q b2 i2 x far)) => over_any q bi z (Tr.mk q b1 outer y i1) (Tr.mk q b2 i2 x far) w' ((hli.mk_top (by rw [Tr.mk_size]; omega)).below hk) h1 h2 (by rw [Tr.mk_size, Tr.mk_size]; omega))
  have HD1 := hide (deep_any (Tr.mk q bl outer y (Tr.mk q bi i1 z i2)) w hl)
  have HD2 := hide (deep_any far w hlf)
  have HD3 := hide (fun w' (hk : KO w w') => deep_any (Tr.mk q bi i1 z i2) w' (hli.below hk))
  have HD4 := hide (fun w' (hk : KO w w') => deep_any outer w' (hlo.below hk))
  have hfo := far.high_le
  have hio := (Tr.mk q bi i1 z i2).high_le
  have hoo := outer.high_le
  rw [Tr.mk_size] at hio
  rw [Tr.at_mk] at HD1 HD3 df
  obtain ⟨zl, hzl⟩ : ∃ zl, (Tr.mk q bl outer y (Tr.mk q bi i1 z i2)).high = zl := ⟨_, rfl⟩
  rw [hzl] at HD1 hh
  obtain ⟨zi, hzi⟩ : ∃ zi, (Tr.mk q bi i1 z i2).high = zi := ⟨_, rfl⟩
  rw [hzi] at HD3 hi hio
  obtain ⟨r, hr⟩ : ∃ r, far.at = r := ⟨_, rfl⟩
  obtain ⟨p1, hp1⟩ : ∃ p1, i1.at = p1 := ⟨_, rfl⟩
  obtain ⟨p2, hp2⟩ : ∃ p2, i2.at = p2 := ⟨_, rfl⟩
  obtain ⟨po, hpo⟩ : ∃ po, outer.at = po := ⟨_, rfl⟩
  rw [hr] at HO2 HD2 cf
  rw [hp1] at HO1 gn
  rw [hp2] at HO2 gf
  rw [hpo] at HD4 HO1 dn
  have e1 : wrap64 ((far.high : Int) + 1) = (far.high : Int) + 1 := w64_small (by omega) (by omega)
  have e2 : ¬ ((zl : Int) ≤ (far.high : Int) + 1) := cast_gt hh
  have e3 : ¬ ((zi : Int) ≤ (outer.high : Int)) := cast_nle hi
  clear ht hl hs hs2 hh hi hlf hln hlo hli hzl hzi hr hp1 hp2 hpo hfo hio hoo hl1 hl2
  cases q
  all_goals
    simp only [nOff_f, nOff_t, fOff_f, fOff_t, sideI_f, sideI_t, Tr.at_mk] at cn cf dn df gn gf HO1 HO2 HO3 ⊢
    go_enter Try.func70, Try.ntmps70
    go_wp2_with (first
      | (go_at_call_of 50 bl; refine HD1.out.mono ?_; rintro e w' ⟨rfl, rfl⟩)
      | (go_at_call_of 50 r; refine HD2.out.mono ?_; rintro e w' ⟨rfl, rfl⟩))
    go_quiet (fail)
    have hk1 : KO w (w.drewN nq) := Below.drewN w nq
    go_wp2_with (first
      | (go_at_call_of 50 bi; refine (HD3.out _ hk1).mono ?_; rintro e w' ⟨rfl, rfl⟩)
      | (go_at_call_of 50 po; refine (HD4.out _ hk1).mono ?_; rintro e w' ⟨rfl, rfl⟩))
    obtain ⟨w1, hw1⟩ : ∃ w1, w.drewN nq = w1 := ⟨_, rfl⟩
    rw [hw1] at hk1 ⊢
    have k0 : ∀ w', KO w1 w' → w'.cell? ⟨bi, 0, none⟩ = w.cell? ⟨bi, 0, none⟩ := fun w' hk => Below.cell (KO.on hk1 hk) (by exact hbi)
    have k1 : ∀ w', KO w1 w' → w'.cell? ⟨bi, 1, none⟩ = w.cell? ⟨bi, 1, none⟩ := fun w' hk => Below.cell (KO.on hk1 hk) (by exact hbi)
    simp only [gn, gf] at k0 k1
    have hB : KO w1 w1 := KO.refl _
    clear hw1 cn cf dn df gn gf HD1 HD2 HD3 HD4
    refine wp_region_noPanic ?_
    go_region_held (fun w' => KO w1 w') (first | assumption | exact KO.drew hB)
      (first
        | (go_at_call_of 54 po; refine (HO1.out _ (KO.on hk1 (by assumption))).mono ?_; rintro e wA ⟨bA, rfl, hlA, hbA⟩; have hkA : KO w1 wA := KO.on (by assumption) hbA)
        | (go_at_call_of 54 p2; refine (HO2.out _ (KO.on hk1 hkA)).mono ?_; rintro e wB ⟨bB, rfl, hlB, hbB⟩; have hkB : KO w1 wB := KO.on hkA hbB; have hlA2 := hlA.below hbB)
        | (go_at_call_of 54 bi; refine (HO3.out _ (KO.on hk1 hkB) bA bB hlA2 hlB).mono ?_; rintro e wC ⟨bC, rfl, hlC, hbC⟩; have hkC : KO w1 wC := KO.on hkB hbC))
    all_goals (
      refine NoPanic.normal ?_
      go_wp2
      go_ret
      exact ⟨bC, bA, bB, rfl, hlC, KO.on hk1 hkC⟩)
/-- A node like 'mk q bt l0 x far' with 'low', as high as l0 or higher by one, in l0's place. -/
theorem hang_any (q : Bool) (bt : Nat) (x : Int) (l0 far low : Tr) (w : World) (ht : Lies w (Tr.mk q bt l0 x far)) (hl : Lies w low) (hb : (Tr.mk q bt l0 x far).bal) (hlb : low.bal)
    (hs : (Tr.mk q bt l0 x far).size ≤ 4611686018427387904) (hs2 : low.size + far.size + 1 ≤ 4611686018427387904) (h1 : l0.high ≤ low.high) (h2 : low.high ≤ l0.high + 1) :
    Calls Try.prog 70 #[.int .i64 (sideI q), .pointer (some ⟨bt, 0, none⟩), .pointer low.at] w fun e w' =>
      ∃ T : Tr, e = .returned (.pointer T.at) ∧ Lies w' T ∧ T.list = Tr.glue q low.list x far.list ∧ T.bal ∧ (Tr.mk q bt l0 x far).high ≤ T.high ∧ T.high ≤ (Tr.mk q bt l0 x far).high + 1 ∧ Below w.heap.size w w' := by
  obtain ⟨hb0, hbf, hb1, hb2⟩ := (Tr.mk_bal ..).1 hb
  by_cases hh : low.high ≤ far.high + 1
  · refine (hang_keep q bt x l0 far low w ht hl hs hs2 hh).mono ?_
    rintro e w' ⟨b', rfl, hl', hb'⟩
    refine ⟨_, by rw [Tr.at_mk], hl', Tr.mk_list .., (Tr.mk_bal ..).2 ⟨hlb, hbf, hh, by omega⟩, ?_, ?_, hb'⟩
    · rw [Tr.mk_high', Tr.mk_high']; omega
    · rw [Tr.mk_high', Tr.mk_high']; omega
  · cases low with
    | nil => simp at hh
    | node bl a y c =>
      obtain ⟨outer, inner, hm⟩ := Tr.node_mk q bl a y c
      rw [hm] at hl hlb hs2 h1 h2 hh ⊢
      obtain ⟨hbo, hbi, hb3, hb4⟩ := (Tr.mk_bal ..).1 hlb
      have hlh := Tr.mk_high' q bl outer y inner
      by_cases hi : inner.high ≤ outer.high
      · rw [Tr.at_mk]
        refine (hang_once q bt bl x y l0 far outer inner w ht hl hs hs2 (by omega) hi).mono ?_
        rintro e w' ⟨b', b'', rfl, hl', hb'⟩
        refine ⟨_, by rw [Tr.at_mk], hl', by simp only [Tr.mk_list, Tr.glue_assoc], (Tr.mk_bal ..).2 ⟨hbo, (Tr.mk_bal ..).2 ⟨hbi, hbf, by omega, by omega⟩, ?_, ?_⟩, ?_, ?_, hb'⟩
        all_goals (simp only [Tr.mk_high'] at *; omega)
      · cases inner with
        | nil => simp at hi
        | node bi c d e =>
          obtain ⟨i1, i2, hm2⟩ := Tr.node_mk q bi c d e
          rw [hm2] at hl hlb hs2 h1 h2 hh hbi hb3 hb4 hlh hi ⊢
          obtain ⟨hbi1, hbi2, hb5, hb6⟩ := (Tr.mk_bal ..).1 hbi
          have hih := Tr.mk_high' q bi i1 d i2
          rw [Tr.at_mk]
          refine (hang_twice q bt bl bi x y d l0 far outer i1 i2 w ht hl hs hs2 (by omega) (by omega)).mono ?_
          rintro e w' ⟨b', b1, b2, rfl, hl', hb'⟩
          refine ⟨_, by rw [Tr.at_mk], hl', by simp only [Tr.mk_list, Tr.glue_assoc], (Tr.mk_bal ..).2 ⟨(Tr.mk_bal ..).2 ⟨hbo, hbi1, ?_, ?_⟩, (Tr.mk_bal ..).2 ⟨hbi2, hbf, ?_, ?_⟩, ?_, ?_⟩, ?_, ?_, hb'⟩
          all_goals (simp only [Tr.mk_high'] at *; omega)
end Go.Proofs.Yteiljaecaahonaa
