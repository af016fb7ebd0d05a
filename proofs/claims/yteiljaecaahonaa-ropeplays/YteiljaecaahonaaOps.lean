/- Contracts of Insert, Delete, Split, Concat. -/
import Derived.Test.YteiljaecaahonaaRp
namespace Go.Proofs.Yteiljaecaahonaa
open Go.RowKit
set_option linter.unusedVariables false
set_option maxHeartbeats 2000000
set_option maxRecDepth 100000
theorem bad_ok {n : Nat} {i j : Int} (h0 : 0 ≤ i) (h1 : i ≤ j) (h2 : j ≤ n) : bad n i j = 0 := by unfold bad; rw [if_neg (by omega)]
theorem bad_no {n : Nat} {i j : Int} (h : ¬ (0 ≤ i ∧ i ≤ j ∧ j ≤ n)) : bad n i j = 4 := by unfold bad; rw [if_pos (by omega)]
theorem Insert_ok (b : Nat) (t : Tr) (i : Int) (ao : Option Addr) (n cap : Nat) (zs : List Int) (w : World) (h : IsRope w b t) (hr : Row .i32 w ao n cap zs) (hwf : ∀ x ∈ zs, (Lit.int .i32 x).wf = true) (h0 : 0 ≤ i) (h1 : i ≤ (t.size : Int))
    (hs : t.size + n ≤ 1152921504606846976) :
    Calls Try.prog 15 #[.pointer (some ⟨b, 0, none⟩), .int .i64 i, .slice ao n cap] w fun e w' =>
      ∃ b' t', e = .returned (.tuple #[.pointer (some ⟨b', 0, none⟩), .int .i64 0]) ∧ IsRope w' b' t' ∧ t'.list = t.list.take i.toNat ++ zs ++ t.list.drop i.toNat ∧ Below w.heap.size w w' := by
  have HT := hide (stretch_rope b t i i w h)
  rw [bad_ok h0 (Int.le_refl _) h1] at HT
  have HS := hide (split_any t i w h.lies h.bal (by omega) (by omega) (by omega))
  have HG := hide (fun w' (hk : KO w w') => grow_any n ao n cap zs w' (Nat.le_refl _) (hr.below hk) hwf (by omega))
  have c := h.top
  obtain ⟨p, hp⟩ : ∃ p, t.at = p := ⟨_, rfl⟩
  rw [hp] at HS c
  have HZ := hide hs
  have HN := hide hr.len
  clear h hp hr hwf h0 h1 hs
  go_enter Try.func15, Try.ntmps15
  go_wp2_with (go_at_call 43; refine HT.out.mono ?_; rintro e w' ⟨rfl, rfl⟩)
  refine HS.out.mono ?_
  rintro e w1 ⟨x, y, rfl, hx, hy, hxi, hyi, hxb, hyb, hb1⟩
  have hk1 : KO w w1 := hb1
  have HX := hide hx
  have HY := hide hy
  have HXI := hide hxi
  have HYI := hide hyi
  clear hx hy hxi hyi c
  obtain ⟨px, hpx⟩ : ∃ px, x.at = px := ⟨_, rfl⟩
  obtain ⟨py, hpy⟩ : ∃ py, y.at = py := ⟨_, rfl⟩
  have HPX := hide hpx
  have HPY := hide hpy
  rw [hpx, hpy]
  clear hpx hpy
  go_wp2_with fail
  refine (HG.out _ hk1).mono ?_
  rintro e w2 ⟨g, rfl, hg, hgi, hgb, _, hb2⟩
  have hk2 : KO w w2 := KO.on hk1 hb2
  have e1 : x.size + y.size = t.size := by unfold Tr.size; rw [HXI.out, HYI.out, ← List.length_append, List.take_append_drop]
  have e2 : g.size = n := by unfold Tr.size; rw [hgi]; exact HN.out
  have hz := HZ.out
  have HC1 := hide (concat_any x g w2 (HX.out.below hb2) hxb hg hgb (by omega))
  have HC2 := hide (fun w3 (hb : Below w2.heap.size w2 w3) (m : Tr) (hm : Lies w3 m) (hmb : m.bal) (hmi : m.list = x.list ++ g.list) => concat_any m y w3 hm hmb ((HY.out.below hb2).below hb) hyb (by
    have : m.size = x.size + g.size := by unfold Tr.size; rw [hmi, List.length_append]
    omega))
  have HGI := hide hgi
  rw [HPX.out] at HC1
  rw [HPY.out] at HC2
  clear hg hgi e1 e2 hz
  go_wp2_with fail
  refine HC1.out.mono ?_
  rintro e w3 ⟨m, rfl, hm, hmi, hmb, hb3⟩
  have HMI := hide hmi
  have HC3 := hide (HC2.out w3 hb3 m hm hmb hmi)
  have hk3 : KO w w3 := KO.on hk2 hb3
  clear hmi hm HC1 HC2
  go_wp2_with (first
    | (go_at_call 45; refine HC3.out.mono ?_; rintro e w4 ⟨T, rfl, hT, hTi, hTb, hb4⟩; have HTI := hide hTi; clear hTi)
    | (go_at_call 34; refine (ropeOf_any T _ hT hTb).mono ?_; rintro e w5 ⟨b5, rfl, hr5, hb5⟩))
  go_ret2
  refine ⟨b5, T, rfl, hr5, ?_, KO.on (KO.on hk3 hb4) hb5⟩
  rw [HTI.out, HMI.out, HGI.out, HXI.out, HYI.out]
theorem Insert_bad (b : Nat) (t : Tr) (i : Int) (v : Value) (w : World) (h : IsRope w b t) (hb : ¬ (0 ≤ i ∧ i ≤ (t.size : Int))) :
    Calls Try.prog 15 #[.pointer (some ⟨b, 0, none⟩), .int .i64 i, v] w fun e w' => e = .returned (.tuple #[.pointer none, .int .i64 4]) ∧ w = w' := by
  have HT := hide (stretch_rope b t i i w h)
  rw [bad_no (by omega)] at HT
  clear h hb
  go_enter Try.func15, Try.ntmps15
  go_wp2_with (go_at_call 43; refine HT.out.mono ?_; rintro e w' ⟨rfl, rfl⟩)
  go_ret2
  exact ⟨rfl, rfl⟩
theorem Insert_nobody (p : Option Addr) (i : Int) (v : Value) (w : World) (h : Nobody w p) :
    Calls Try.prog 15 #[.pointer p, .int .i64 i, v] w fun e w' => e = .returned (.tuple #[.pointer none, .int .i64 1]) ∧ w = w' := by
  have HT := hide (stretch_nobody p i i w h)
  clear h
  go_enter Try.func15, Try.ntmps15
  go_wp2_with (go_at_call 43; refine HT.out.mono ?_; rintro e w' ⟨rfl, rfl⟩)
  go_ret2
  exact ⟨rfl, rfl⟩
theorem Delete_ok (b : Nat) (t : Tr) (i j : Int) (w : World) (h : IsRope w b t) (h0 : 0 ≤ i) (hij : i ≤ j) (h1 : j ≤ (t.size : Int)) (hs : t.size ≤ 576460752303423488) :
    Calls Try.prog 16 #[.pointer (some ⟨b, 0, none⟩), .int .i64 i, .int .i64 j] w fun e w' =>
      ∃ b' t', e = .returned (.tuple #[.pointer (some ⟨b', 0, none⟩), .int .i64 0]) ∧ IsRope w' b' t' ∧ t'.list = t.list.take i.toNat ++ t.list.drop j.toNat ∧ Below w.heap.size w w' := by
  have HT := hide (stretch_rope b t i j w h)
  rw [bad_ok h0 hij h1] at HT
  have HS1 := hide (split_any t i w h.lies h.bal (by omega) (by omega) (by omega))
  have HS2 := hide (fun w' (hk : KO w w') => split_any t j w' (h.lies.below hk) h.bal (by omega) (by omega) (by omega))
  have c := h.top
  have hlt := h.lt
  obtain ⟨p, hp⟩ : ∃ p, t.at = p := ⟨_, rfl⟩
  rw [hp] at HS1 HS2 c
  have HZ := hide hs
  clear h hp h0 hij h1 hs
  go_enter Try.func16, Try.ntmps16
  go_wp2_with (go_at_call 43; refine HT.out.mono ?_; rintro e w' ⟨rfl, rfl⟩)
  refine HS1.out.mono ?_
  rintro e w1 ⟨x, y, rfl, hx, hy, hxi, hyi, hxb, hyb, hb1⟩
  have hk1 : KO w w1 := hb1
  have c1 : w1.cell? ⟨b, 1, none⟩ = some (.pointer p) := (hb1.cell (by exact hlt)).trans c
  have HX := hide hx
  have HXI := hide hxi
  clear hx hy hxi hyi c hyb
  obtain ⟨px, hpx⟩ : ∃ px, x.at = px := ⟨_, rfl⟩
  obtain ⟨py, hpy⟩ : ∃ py, y.at = py := ⟨_, rfl⟩
  have HPX := hide hpx
  rw [hpx, hpy]
  clear hpx hpy
  go_wp2_with fail
  refine (HS2.out _ hk1).mono ?_
  rintro e w2 ⟨u, v, rfl, hu, hv, hui, hvi, hub, hvb, hb2⟩
  have hk2 : KO w w2 := KO.on hk1 hb2
  have hz := HZ.out
  have e1 : x.size ≤ t.size := by unfold Tr.size; rw [HXI.out, List.length_take]; omega
  have e2 : v.size ≤ t.size := by unfold Tr.size; rw [hvi, List.length_drop]; omega
  have HC := hide (concat_any x v w2 (HX.out.below hb2) hxb hv hvb (by omega))
  have HVI := hide hvi
  rw [HPX.out] at HC
  obtain ⟨pu, hpu⟩ : ∃ pu, u.at = pu := ⟨_, rfl⟩
  obtain ⟨pv, hpv⟩ : ∃ pv, v.at = pv := ⟨_, rfl⟩
  rw [hpv] at HC
  rw [hpu, hpv]
  clear hu hv hui hvi hub e1 e2 hz hpu hpv c1
  go_wp2_with (first
    | (go_at_call 45; refine HC.out.mono ?_; rintro e w4 ⟨T, rfl, hT, hTi, hTb, hb4⟩; have HTI := hide hTi; clear hTi)
    | (go_at_call 34; refine (ropeOf_any T _ hT hTb).mono ?_; rintro e w5 ⟨b5, rfl, hr5, hb5⟩))
  go_ret2
  refine ⟨b5, T, rfl, hr5, ?_, KO.on (KO.on hk2 hb4) hb5⟩
  rw [HTI.out, HXI.out, HVI.out]
theorem Delete_bad (b : Nat) (t : Tr) (i j : Int) (w : World) (h : IsRope w b t) (hb : ¬ (0 ≤ i ∧ i ≤ j ∧ j ≤ (t.size : Int))) :
    Calls Try.prog 16 #[.pointer (some ⟨b, 0, none⟩), .int .i64 i, .int .i64 j] w fun e w' => e = .returned (.tuple #[.pointer none, .int .i64 4]) ∧ w = w' := by
  have HT := hide (stretch_rope b t i j w h)
  rw [bad_no hb] at HT
  clear h hb
  go_enter Try.func16, Try.ntmps16
  go_wp2_with (go_at_call 43; refine HT.out.mono ?_; rintro e w' ⟨rfl, rfl⟩)
  go_ret2
  exact ⟨rfl, rfl⟩
theorem Delete_nobody (p : Option Addr) (i j : Int) (w : World) (h : Nobody w p) :
    Calls Try.prog 16 #[.pointer p, .int .i64 i, .int .i64 j] w fun e w' => e = .returned (.tuple #[.pointer none, .int .i64 1]) ∧ w = w' := by
  have HT := hide (stretch_nobody p i j w h)
  clear h
  go_enter Try.func16, Try.ntmps16
  go_wp2_with (go_at_call 43; refine HT.out.mono ?_; rintro e w' ⟨rfl, rfl⟩)
  go_ret2
  exact ⟨rfl, rfl⟩
theorem Split_ok (b : Nat) (t : Tr) (i : Int) (w : World) (h : IsRope w b t) (h0 : 0 ≤ i) (h1 : i ≤ (t.size : Int)) (hs : t.size ≤ 576460752303423488) :
    Calls Try.prog 17 #[.pointer (some ⟨b, 0, none⟩), .int .i64 i] w fun e w' =>
      ∃ b1 b2 t1 t2, e = .returned (.tuple #[.pointer (some ⟨b1, 0, none⟩), .pointer (some ⟨b2, 0, none⟩), .int .i64 0]) ∧ IsRope w' b1 t1 ∧ IsRope w' b2 t2 ∧ t1.list = t.list.take i.toNat ∧ t2.list = t.list.drop i.toNat ∧ Below w.heap.size w w' := by
  have HT := hide (stretch_rope b t i i w h)
  rw [bad_ok h0 (Int.le_refl _) h1] at HT
  have HS := hide (split_any t i w h.lies h.bal (by omega) (by omega) (by omega))
  have c := h.top
  obtain ⟨p, hp⟩ : ∃ p, t.at = p := ⟨_, rfl⟩
  rw [hp] at HS c
  clear h hp h0 h1 hs
  go_enter Try.func17, Try.ntmps17
  go_wp2_with (go_at_call 43; refine HT.out.mono ?_; rintro e w' ⟨rfl, rfl⟩)
  refine HS.out.mono ?_
  rintro e w1 ⟨x, y, rfl, hx, hy, hxi, hyi, hxb, hyb, hb1⟩
  have HR1 := hide (ropeOf_any x w1 hx hxb)
  have HR2 := hide (fun w2 (hb : Below w1.heap.size w1 w2) => ropeOf_any y w2 (hy.below hb) hyb)
  have HXI := hide hxi
  have HYI := hide hyi
  obtain ⟨px, hpx⟩ : ∃ px, x.at = px := ⟨_, rfl⟩
  obtain ⟨py, hpy⟩ : ∃ py, y.at = py := ⟨_, rfl⟩
  rw [hpx] at HR1 ⊢
  rw [hpy] at HR2 ⊢
  clear hx hy hxi hyi c hpx hpy
  go_wp2_with fail
  refine HR1.out.mono ?_
  rintro e w2 ⟨b2, rfl, hr2, hb2⟩
  go_wp2_with fail
  refine (HR2.out _ hb2).mono ?_
  rintro e w3 ⟨b3, rfl, hr3, hb3⟩
  go_wp2_with fail
  refine bodyPost_ret (by simp [results, Try.results17, go_sem]; rfl) rfl ?_
  exact ⟨b2, b3, x, y, rfl, hr2.below hb3, hr3, HXI.out, HYI.out, hb1.trans ((hb2.trans (hb3.mono hb2.size)).mono hb1.size)⟩
end Go.Proofs.Yteiljaecaahonaa
