import Derived.Test.YtfadjgaledddjaaGreatDoorZq
import Derived.Test.YtfadjgaledddjaaGreatDoorZu
import Derived.Test.YtfadjgaledddjaaGreatDoorZm
import Derived.Test.YtfadjgaledddjaaGreatDoorZn
import Derived.Test.YtfadjgaledddjaaGreatDoorZw
import Derived.Test.YtfadjgaledddjaaGreatDoorZx
import Derived.Test.YtfadjgaledddjaaGreatDoorZo
import Derived.Test.YtfadjgaledddjaaGreatDoorZr
import Derived.Test.YtfadjgaledddjaaGreatDoorZv
/- What the document says is wrong with a paragraph. -/
namespace Go.Proofs.YtfadjgaledddjaaGreatDoor
open Go.RowKit
set_option linter.unusedVariables false
set_option maxHeartbeats 1000000
set_option maxRecDepth 100000
/-- What is wrong with a paragraph. -/
def WA12 (l : List Int) (base E : Int) : Prop := (¬ Rn.BB base ∧ E = 2) ∨ (Rn.BB base ∧ 4096 < l.length ∧ E = 3) ∨ (Rn.BB base ∧ l.length ≤ 300 ∧ ¬ Ex.Formed (Rn.cl l) ∧ E = 50) ∨ (Rn.BB base ∧ l.length ≤ 300 ∧ Ex.Formed (Rn.cl l) ∧ E = 0)
theorem bb_cases (base : Int) : (Rn.BB base ∧ ¬ base < -1 ∧ ¬ 1 < base) ∨ (¬ Rn.BB base ∧ base < -1) ∨ (¬ Rn.BB base ∧ ¬ base < -1 ∧ 1 < base) := by
  unfold Rn.BB
  omega
theorem rwrong12_any (ao : Option Addr) (n cap : Nat) (l : List Int) (base E : Int) (w : World) (h : Row .i32 w ao n cap l) (hf : ∀ x ∈ l, (Lit.int .i32 x).wf = true) (hA : WA12 l base E) :
    Calls Tryz.prog 21 #[.slice ao n cap, .int .i64 base] w fun e w' => e = .returned (.int .i64 E) ∧ KO w w' := by
  have hl := h.len
  rcases bb_cases base with ⟨hb, h1, h2⟩ | ⟨hb, h1⟩ | ⟨hb, h1, h2⟩
  · by_cases hbig : 4096 < n
    · have hE : E = 3 := by
        rcases hA with ⟨q, _⟩ | ⟨_, _, q⟩ | ⟨_, q, _⟩ | ⟨_, q, _⟩
        · exact absurd hb q
        · exact q
        · omega
        · omega
      subst hE
      have hbig2 : (4096 : Int) < (n : Int) := by omega
      clear h hf hA hl hb
      go_enter Tryz.func21, Tryz.ntmps21
      go_wp2
      go_ret
      exact ⟨rfl, KO.refl _⟩
    · have hbig2 : ¬ (4096 : Int) < (n : Int) := by omega
      have hE : n ≤ 300 ∧ ((¬ Ex.Formed (Rn.cl l) ∧ E = 50) ∨ (Ex.Formed (Rn.cl l) ∧ E = 0)) := by
        rcases hA with ⟨q, _⟩ | ⟨_, q, _⟩ | ⟨_, q1, q2, q3⟩ | ⟨_, q1, q2, q3⟩
        · exact absurd hb q
        · omega
        · exact ⟨by omega, .inl ⟨q2, q3⟩⟩
        · exact ⟨by omega, .inr ⟨q2, q3⟩⟩
      obtain ⟨hn, hE⟩ := hE
      have HC := hide (rclasses_any ao n cap l w h hf (by omega))
      clear h hf hA hb
      rcases hE with ⟨hF, rfl⟩ | ⟨hF, rfl⟩
      · have HF := hide (fun a1 c1 w1 (h1 : Row .i64 w1 a1 n c1 (Rn.cl l)) => rformed_any a1 n c1 (Rn.cl l) w1 h1 hn false (by simp [hF]))
        clear hF
        go_enter Tryz.func21, Tryz.ntmps21
        go_wp2_with fail
        refine HC.out.mono ?_
        rintro e w1 ⟨a1, c1, rfl, hr, hk⟩
        have HF1 := hide (HF.out a1 c1 w1 hr)
        have HK := hide hk
        clear hr hk HF
        go_wp2_with (go_at_call 34; refine HF1.out.mono ?_; rintro e w2 ⟨rfl, rfl⟩)
        go_ret
        exact ⟨rfl, HK.out⟩
      · have HF := hide (fun a1 c1 w1 (h1 : Row .i64 w1 a1 n c1 (Rn.cl l)) => rformed_any a1 n c1 (Rn.cl l) w1 h1 hn true (by simp [hF]))
        clear hF
        go_enter Tryz.func21, Tryz.ntmps21
        go_wp2_with fail
        refine HC.out.mono ?_
        rintro e w1 ⟨a1, c1, rfl, hr, hk⟩
        have HF1 := hide (HF.out a1 c1 w1 hr)
        have HK := hide hk
        clear hr hk HF
        go_wp2_with (go_at_call 34; refine HF1.out.mono ?_; rintro e w2 ⟨rfl, rfl⟩)
        go_ret
        exact ⟨rfl, HK.out⟩
  · have hE : E = 2 := by
      rcases hA with ⟨_, q⟩ | ⟨q, _⟩ | ⟨q, _⟩ | ⟨q, _⟩
      · exact q
      all_goals exact absurd q hb
    subst hE
    clear h hf hA hb hl
    go_enter Tryz.func21, Tryz.ntmps21
    go_wp2
    go_ret
    exact ⟨rfl, KO.refl _⟩
  · have hE : E = 2 := by
      rcases hA with ⟨_, q⟩ | ⟨q, _⟩ | ⟨q, _⟩ | ⟨q, _⟩
      · exact q
      all_goals exact absurd q hb
    subst hE
    clear h hf hA hb hl
    go_enter Tryz.func21, Tryz.ntmps21
    go_wp2
    go_ret
    exact ⟨rfl, KO.refl _⟩
end Go.Proofs.YtfadjgaledddjaaGreatDoor

/- The document's levels of a sequence. -/
namespace Go.Proofs.YtfadjgaledddjaaGreatDoor
open Go.RowKit
set_option linter.unusedVariables false
set_option maxHeartbeats 1000000
set_option maxRecDepth 100000
theorem pk_snoc (t : List Int) (ps : List Nat) {k : Nat} (hk : k < ps.length) : Rn.pk t (ps.take (k + 1)) = Rn.pk t (ps.take k) ++ [t.getD (ps.getD k 0) 0] := by
  rw [Rn.take_places (s := ⟨ps, 0, 0, 0⟩) hk]
  simp [Rn.pk]
theorem rseq12_any (ao at' : Option Addr) (n cap ct : Nat) (l T : List Int) (w : World) (h : Row .i32 w ao n cap l) (hT : Row .i64 w at' n ct T) (gj np cj : Nat) (ps : List Nat) (x y z : Int) (hp : Row .i64 w (some ⟨gj, 0, none⟩) np cj (Rn.zs ps)) (hlt : ∀ i ∈ ps, i < n)
    (hg : Rn.G (Rn.pk l ps) (Rn.pk T ps) x y z) (hf : ∀ x ∈ l, (Lit.int .i32 x).wf = true) (hn : np ≤ 300) :
    Calls Tryz.prog 25 #[.slice ao n cap, .slice at' n ct, .agg #[.slice (some ⟨gj, 0, none⟩) np cj, .int .i64 x, .int .i64 y, .int .i64 z]] w fun e w' => ∃ a1 c1, e = .returned (.slice a1 np c1) ∧ Row .i64 w' a1 np c1 (Rn.F13 (Rn.pk l ps) (Rn.pk T ps) x y z) ∧ KO w w' ∧ Fresh w a1 np := by
  obtain ⟨ii, hii, hy0, hy1, hy2⟩ := info_parts infoInt
  have HII : Hid (Tryz.prog.info? 3 = some ii) := hii
  have HY0 := hide hy0
  have HY1 := hide hy1
  have HY2 := hide hy2
  obtain ⟨ir, hir, hz0, hz1, hz2⟩ := info_parts infoRune12
  have HIR : Hid (Tryz.prog.info? 21 = some ir) := hir
  have HZ0 := hide hz0
  have HZ1 := hide hz1
  have HZ2 := hide hz2
  have hnp : ps.length = np := by have := hp.len; rw [zs_len] at this; exact this
  obtain ⟨W1, hW1⟩ : ∃ W1, w.alloc (.cells #[.slice (some ⟨gj, 0, none⟩) np cj, .int .i64 x, .int .i64 y, .int .i64 z] 57) = W1 := ⟨_, rfl⟩
  have hk1 : KO w W1 := by rw [← hW1]; exact KO.alloc (KO.refl _) _
  have hh : W1.heap[w.heap.size]? = some (.cells #[.slice (some ⟨gj, 0, none⟩) np cj, .int .i64 x, .int .i64 y, .int .i64 z] 57 (0, 0)) := by rw [← hW1]; exact heap_alloc_last w _
  have hW : ∀ W, KO W1 W → W.heap[w.heap.size]? = some (.cells #[.slice (some ⟨gj, 0, none⟩) np cj, .int .i64 x, .int .i64 y, .int .i64 z] 57 (0, 0)) := fun W hk => (Below.block hk w.heap.size (Array.getElem?_eq_some_iff.1 hh).1).trans hh
  have HX0 := hide (fun W (hk : KO W1 W) => (show W.cell? ⟨w.heap.size, 0, none⟩ = some (.slice (some ⟨gj, 0, none⟩) np cj) from by simp [World.cell?, hW W hk]))
  have HX1 := hide (fun W (hk : KO W1 W) => (show W.cell? ⟨w.heap.size, 1, none⟩ = some (.int .i64 x) from by simp [World.cell?, hW W hk]))
  have HX2 := hide (fun W (hk : KO W1 W) => (show W.cell? ⟨w.heap.size, 2, none⟩ = some (.int .i64 y) from by simp [World.cell?, hW W hk]))
  have HX3 := hide (fun W (hk : KO W1 W) => (show W.cell? ⟨w.heap.size, 3, none⟩ = some (.int .i64 z) from by simp [World.cell?, hW W hk]))
  have H := hide (h.below hk1)
  have HT := hide (hT.below hk1)
  have HP := hide (hp.below hk1)
  have HL := hide h.len
  have HTL := hide hT.len
  have HNP := hide hnp
  have HLT := hide hlt
  have HG := hide hg
  have HK1 := hide hk1
  have HPF := hide (fun q (hx : q ∈ Rn.pk l ps) => (show (Lit.int .i32 q).wf = true from by
    unfold Rn.pk at hx
    obtain ⟨i, hi, rfl⟩ := List.mem_map.1 hx
    exact wf_at hf (by rw [h.len]; exact hlt i hi)))
  clear h hT hp hlt hg hf hnp hh hW hk1 hii hy0 hy1 hy2 hir hz0 hz1 hz2
  obtain ⟨B, hB⟩ : ∃ B, w.heap.size = B := ⟨_, rfl⟩
  rw [hB] at HX0 HX1 HX2 HX3
  go_enter Tryz.func25, Tryz.ntmps25
  go_wp2
  clear hW1
  go_loopw [7, 8, 9] (fun s7 s8 s9 wr => ∃ (k : Nat) (v7 v8 : Value), v7 = s7 ∧ v8 = s8 ∧ s9 = .int .i64 (k : Int) ∧ k ≤ np ∧ Hid (LT W1 v7 v8 k k (Rn.pk l (ps.take k)) (Rn.pk T (ps.take k)) wr)) (fun _ _ s9 _ => np - (intOf s9).toNat)
  case atStart => exact ⟨0, _, _, rfl, rfl, rfl, Nat.zero_le _, hide ⟨Below.refl _ _, World.ownsRow_nil _ _ _ _, World.ownsRow_nil _ _ _ _⟩⟩
  case round =>
    obtain ⟨k, v7, v8, hv7, hv8, rfl, hk, HLT0⟩ := hrel
    subst hv7
    subst hv8
    have x0 := HX0.out wr HLT0.out.old
    by_cases hlt : k < np
    · have hin : (k : Int) < (np : Int) := by omega
      have hkl : k < ps.length := by rw [HNP.out]; exact hlt
      have hpl := HLT.out _ (Rn.getD_mem hkl)
      have HCP := hide (fun W (hw : KO W1 W) => (show W.cell? ⟨gj, k, none⟩ = some (.int .i64 (ps.getD k 0 : Int)) from by
        have := rowAt HP.out hw k hlt
        rw [Nat.zero_add, zs_at ps hkl] at this
        exact this))
      obtain ⟨b, off, rfl, hbl, hc⟩ := H.out.cells (by omega)
      obtain ⟨b2, off2, rfl, hbl2, hc2⟩ := HT.out.cells (by omega)
      have cp := HCP.out wr HLT0.out.old
      have cl := (HLT0.out.old.cell (by exact hbl)).trans (hc (ps.getD k 0) (by rw [HL.out]; exact hpl))
      have HCT := hide (fun W (hw : KO W1 W) => (Below.cell hw (by exact hbl2)).trans (hc2 (ps.getD k 0) (by rw [HTL.out]; exact hpl)))
      have HSL := hide (pk_snoc l ps hkl)
      have HST := hide (pk_snoc T ps hkl)
      have hpi : ((ps.getD k 0 : Nat) : Int) < (n : Int) := by omega
      clear hc hc2
      generalize Rn.pk l (ps.take k) = Lk at *
      generalize Rn.pk T (ps.take k) = Tk at *
      generalize l.getD (ps.getD k 0) 0 = xl at *
      generalize T.getD (ps.getD k 0) 0 = xT at *
      generalize ps.getD k 0 = pm at *
      go_wp2_with (first
        | (at_builtin; refine wpList_append_one wr rfl (.tmp 19) (.tmp 28) 22 rfl W1.heap.size 21 ir _ 4 Tryz.underlying22 HIR.out HZ0.out HZ1.out HZ2.out rfl v7 k _ rfl (.int .i32 xl) HLT0.out.ol _ rfl rfl rfl (by omega) (by omega) HLT0.out.old.size ?_; intro v1 W4 ho1 hg1; have HL1 := hide (HLT0.out.pushL ho1 hg1); clear ho1 hg1; have d0 := HX0.out W4 HL1.out.old; have dp := HCP.out W4 HL1.out.old; have dT := HCT.out W4 HL1.out.old)
        | (at_builtin; refine wpList_append_one W4 rfl (.tmp 30) (.tmp 39) 24 rfl W1.heap.size 3 ii _ 8 Tryz.underlying24 HII.out HY0.out HY1.out HY2.out rfl v8 k _ rfl (.int .i64 xT) HL1.out.ot _ rfl rfl rfl (by omega) (by omega) HL1.out.old.size ?_; intro v2 W5 ho2 hg2; have HL2 := hide (HL1.out.pushT ho2 hg2); clear ho2 hg2))
      rw [← HSL.out, ← HST.out] at HL2
      go_roundw
      case rel => exact ⟨k + 1, _, _, rfl, rfl, by go_num, by omega, HL2⟩
      case measure => simp [intOf]; omega
    · obtain rfl : k = np := by omega
      have hne : ¬ ((k : Int) < (k : Int)) := by omega
      have hT9 : (Rn.T9 (Rn.pk T ps) y).length = k := by rw [Rn.T9_len, Rn.pk_len]; exact HNP.out
      have hT10 : (Rn.T10 Br.PP (Rn.pk l ps) (Rn.pk T ps) x y).length = k := by rw [Rn.T10_len, Rn.pk_len]; exact HNP.out
      have hT11 : (Ne.RS (Rn.T10 Br.PP (Rn.pk l ps) (Rn.pk T ps) x y) x y z).length = k := by rw [Ne.RS_len]; exact hT10
      have hT12 : (Rn.F13 (Rn.pk l ps) (Rn.pk T ps) x y z).length = k := by unfold Rn.F13; rw [Rn.F12_len, Rn.pk_len]; exact HNP.out
      obtain ⟨a7, c7, rfl, r7⟩ := row_of_owns HLT0.out.ol
      obtain ⟨a8, c8, rfl, r8⟩ := row_of_owns HLT0.out.ot
      rw [List.take_of_length_le (by rw [HNP.out]; exact Nat.le_refl _)] at r7 r8
      have HKR := hide HLT0.out.old
      have H9 := hide (rwresolve_any a8 k c8 y (Rn.pk T ps) _ 0 wr r8 (by omega) HG.out.b9)
      have H10 := hide (fun W a9 c9 (hw : KO wr W) (h9 : Row .i64 W a9 k c9 (Rn.T9 (Rn.pk T ps) y)) => dresolve_any a7 a8 a9 k k k c7 c8 c9 (Rn.pk l ps) (Rn.pk T ps) _ x y W (r7.below hw) (r8.below hw) h9 HPF.out (by omega))
      have H11 := hide (fun W a9 c9 (h9 : Row .i64 W a9 k c9 (Rn.T10 Br.PP (Rn.pk l ps) (Rn.pk T ps) x y)) => nrresolve_any a9 k c9 x y z _ W h9 (by omega) _ 0 HG.out.ar)
      have H12 := hide (fun W a9 c9 (h9 : Row .i64 W a9 k c9 (Ne.RS (Rn.T10 Br.PP (Rn.pk l ps) (Rn.pk T ps) x y) x y z)) => rlevels_go a9 k c9 x _ W h9 (by omega) ⟨HG.out.lv0, by have := HG.out.lv1; omega⟩ (Rn.F13 (Rn.pk l ps) (Rn.pk T ps) x y z) 0 (.inr ⟨Rn.rs_sided _ _ _ _ HG.out.so, rfl, rfl⟩))
      rw [hT9] at H9
      rw [HG.out.ra] at H10
      unfold R10 at H10
      simp only [hT10] at H10
      simp only [hT11] at H11
      simp only [hT12] at H12
      have x2 := HX2.out wr HKR.out
      clear hT9 hT10 hT11 hT12 r7 r8 HLT0 HG HPF
      obtain ⟨L12, hL12⟩ : ∃ L, Rn.F13 (Rn.pk l ps) (Rn.pk T ps) x y z = L := ⟨_, rfl⟩
      rw [hL12] at H12
      have HLE := hide hL12
      clear hL12
      generalize Ne.RS (Rn.T10 Br.PP (Rn.pk l ps) (Rn.pk T ps) x y) x y z = L11 at *
      generalize Rn.T10 Br.PP (Rn.pk l ps) (Rn.pk T ps) x y = L10 at *
      generalize Rn.T9 (Rn.pk T ps) y = L9 at *
      go_wp2_with fail
      refine H9.out.mono ?_
      rintro e w9 ⟨a9, c9, rfl, hN9⟩
      have HK9 := hide (show KO wr w9 from hN9.bel)
      have H10' := hide (H10.out w9 a9 c9 hN9.bel hN9.row)
      have y1 := HX1.out w9 (KO.on HKR.out hN9.bel)
      have y2 := HX2.out w9 (KO.on HKR.out hN9.bel)
      clear hN9 H9 H10 x2 x0
      go_wp2_with fail
      refine H10'.out.mono ?_
      rintro e w10 ⟨a10, c10, rfl, hr10, hk10⟩
      have HK10 := hide (KO.on HK9.out hk10)
      have H11' := hide (H11.out w10 a10 c10 hr10)
      have z1 := HX1.out w10 (KO.on HKR.out HK10.out)
      have z2 := HX2.out w10 (KO.on HKR.out HK10.out)
      have z3 := HX3.out w10 (KO.on HKR.out HK10.out)
      clear hr10 hk10 H10' H11 y1 y2 HK9
      go_wp2_with fail
      refine H11'.out.mono ?_
      rintro e w11 ⟨a11, c11, rfl, hr11, hk11⟩
      have HK11 := hide (KO.on HK10.out hk11)
      have H12' := hide (H12.out w11 a11 c11 hr11)
      have u1 := HX1.out w11 (KO.on HKR.out HK11.out)
      clear hr11 hk11 H11' H12 z1 z2 z3 HK10
      go_wp2_with fail
      refine H12'.out.mono ?_
      rintro e w12 ⟨a12, c12, rfl, hr12, hk12, hf12⟩
      have HE := hide (show Row .i64 w12 a12 k c12 L12 ∧ KO w w12 ∧ Fresh w a12 k from ⟨hr12, KO.on HK1.out (KO.on HKR.out (KO.on HK11.out hk12)), fun h0 => by
        obtain ⟨g, e1, e2⟩ := hf12 h0
        exact ⟨g, e1, Nat.le_trans (KO.on HK1.out (KO.on HKR.out HK11.out)).size e2⟩⟩)
      clear hr12 hk12 hf12 H12' u1
      go_wp2
      go_ret
      exact ⟨_, _, rfl, by rw [HLE.out]; exact HE.out.1, HE.out.2.1, HE.out.2.2⟩
end Go.Proofs.YtfadjgaledddjaaGreatDoor

/- The document's Paragraph. -/
namespace Go.Proofs.YtfadjgaledddjaaGreatDoor
open Go.RowKit
set_option linter.unusedVariables false
set_option maxHeartbeats 2000000
set_option maxRecDepth 100000
/-- The rows of levels and types, of whatever length. -/
structure LPV (w0 W : World) (B : Nat) (va vt : Value) (n : Nat) (zs T : List Int) (sv : Value) (ss : List Rn.Sq) : Prop where
  ow : W.ownsRow w0.heap.size 3 1 va n (zs.map (Value.int .i64))
  ot : W.ownsRow w0.heap.size 3 1 vt n (T.map (Value.int .i64))
  ne : ∀ g, va.ownBlock = some g → ¬ vt.ownBlock = some g
  lt : ∀ g, va.ownBlock = some g ∨ vt.ownBlock = some g → g < B
  so : ∃ hs, SO B W sv hs ss
  bel : Below w0.heap.size w0 W
theorem LPV.toW {w0 W : World} {B g gt n cl ct : Nat} {zs T : List Int} {sv : Value} {ss : List Rn.Sq} (h : LPV w0 W B (.slice (some ⟨g, 0, none⟩) n cl) (.slice (some ⟨gt, 0, none⟩) n ct) n zs T sv ss) : LPW w0 W B g gt n cl ct zs T sv ss :=
  ⟨h.ow, h.ot, fun e => h.ne g rfl (by rw [e]; rfl), ⟨h.lt g (.inl rfl), h.lt gt (.inr rfl)⟩, h.so, h.bel⟩
theorem LPW.toV {w0 W : World} {B g gt n cl ct : Nat} {zs T : List Int} {sv : Value} {ss : List Rn.Sq} (h : LPW w0 W B g gt n cl ct zs T sv ss) : LPV w0 W B (.slice (some ⟨g, 0, none⟩) n cl) (.slice (some ⟨gt, 0, none⟩) n ct) n zs T sv ss := by
  refine ⟨h.ow, h.ot, fun q h1 h2 => ?_, fun q hq => ?_, h.so, h.bel⟩
  · simp [Value.ownBlock] at h1 h2
    exact h.ne (h1.trans h2.symm)
  · simp [Value.ownBlock] at hq
    rcases hq with rfl | rfl
    · exact h.lt.1
    · exact h.lt.2
theorem rparagraph12_ok (ao ac : Option Addr) (n cap cc : Nat) (l : List Int) (base : Int) (w : World) (h : Row .i32 w ao n cap l) (hf : ∀ x ∈ l, (Lit.int .i32 x).wf = true) (hn : n ≤ 300) (hbb : Rn.BB base) (hF : Ex.Formed (Rn.cl l)) :
    Calls Tryz.prog 11 #[.slice ao n cap, .int .i64 base] w (RPA w (Rn.bl base l) (Rn.VS l (Rn.bl base l)) 0) := by
  have hlen := h.len
  have hcl : (Rn.cl l).length = n := by rw [Rn.cl_len, hlen]
  have HWR := hide (rwrong12_any ao n cap l base 0 w h hf (.inr (.inr (.inr ⟨hbb, by omega, hF, rfl⟩))))
  have HC := hide (fun W (hk : KO w W) => rclasses_any ao n cap l W (h.below hk) hf (by omega))
  have hb := Rn.bl_two hbb l
  have HBA := hide (fun W ac cc (h0 : Row .i64 W ac n cc (Rn.cl l)) => (show Calls Tryz.prog 22 #[.slice ac n cc, .int .i64 0, .int .i64 (n : Int)] W fun e w' => e = .returned (.tuple #[.int .i64 (Iso.bso 0 (Rn.cl l)), .int .i64 0]) ∧ W = w' from by
    have := rbase_ok ac n cc (Rn.cl l) 0 n W h0 (by omega) (Nat.zero_le _) (Nat.le_refl _)
    rw [List.take_of_length_le (by rw [hcl]; exact Nat.le_refl _), List.drop_zero] at this
    exact this))
  have hbl : (base = -1 ∧ Iso.bso 0 (Rn.cl l) = Rn.bl base l) ∨ (¬ base = -1 ∧ base = Rn.bl base l) := by
    unfold Rn.bl
    by_cases e : base = -1
    · exact .inl ⟨e, (if_pos e).symm⟩
    · exact .inr ⟨e, (if_neg e).symm⟩
  generalize hbq : Rn.bl base l = b at *
  have HR := hide (fun W ac cc (h0 : Row .i64 W ac n cc (Rn.cl l)) => rresolve_own ac n cc (Rn.cl l) b W h0 hn hb hF)
  have HS : Hid (∀ W ac cc, Row .i64 W ac n cc (Rn.cl l) → Calls Tryz.prog 24 #[.slice ac n cc, .int .i64 b] W fun e w' => ∃ sa cs, e = .returned (.tuple #[.slice sa (Rn.SQ b (Rn.cl l)).length cs, .int .i64 0]) ∧ (∃ hs, SO W.heap.size w' (.slice sa (Rn.SQ b (Rn.cl l)).length cs) hs (Rn.SQ b (Rn.cl l))) ∧ Below W.heap.size W w') := hide fun W ac cc h0 => refsequences_own ac n cc (Rn.cl l) b W h0 hn hb hF
  have HG := hide (fun j (hj : j < (Rn.SQ b (Rn.cl l)).length) => Rn.g_of hb hF l (Rn.sq_mem hj))
  have HPOS := hide (fun j (hj : j < (Rn.SQ b (Rn.cl l)).length) => (show 0 < n from by
    have h1 := (Rn.sq_good hb hF (Rn.sq_mem hj)).2.2.2.2
    have h2 := Rn.sq_in hb hF hj _ (Rn.getD_mem h1)
    omega))
  have HWS := hide (fun j m (hj : j < (Rn.SQ b (Rn.cl l)).length) (hm : m < ((Rn.SQ b (Rn.cl l)).getD j default).places.length) => Rn.WK_set (l := l) hb hF hj hm)
  have HWN := hide (fun j (hj : j < (Rn.SQ b (Rn.cl l)).length) => Rn.WK_next (l := l) hj)
  have HWE := hide (Rn.WK_end (l := l) hb hF)
  have HWF := hide (Rn.WK_first (l := l) (b := b) (c := Rn.cl l))
  have HIN := hide (fun j (hj : j < (Rn.SQ b (Rn.cl l)).length) i (hi : i ∈ ((Rn.SQ b (Rn.cl l)).getD j default).places) => (show i < n from by have := Rn.sq_in hb hF hj i hi; omega))
  have HSH := hide (fun j (hj : j < (Rn.SQ b (Rn.cl l)).length) => (show ((Rn.SQ b (Rn.cl l)).getD j default).places.length ≤ 300 from by have := Rn.sq_short hb hF hj; omega))
  have HVS := hide (show Rn.VS l b = Rn.PVs Rn.F13 l b (Rn.cl l) from rfl)
  have HVL := hide (show (Rn.VS l b).length = n from by rw [Rn.VS_len, hlen])
  have HSE := hide (fun (at' : Option Addr) (ct : Nat) (T : List Int) W gj np cj ps x y z (hk : KO w W) (hT : Row .i64 W at' n ct T) (hp : Row .i64 W (some ⟨gj, 0, none⟩) np cj (Rn.zs ps)) (hlt : ∀ i ∈ ps, i < n) (hg : Rn.G (Rn.pk l ps) (Rn.pk T ps) x y z) (hnp : np ≤ 300) => rseq12_any ao at' n cap ct l T W (h.below hk) hT gj np cj ps x y z hp hlt hg hf hnp)
  unfold RPA
  rw [HVL.out]
  unfold Rn.fv at HWS
  rw [HVS.out, ← HWE.out]
  rw [← HWF.out] at HR
  generalize hWK : Rn.WK l b (Rn.cl l) = WK at *
  generalize hSQ : Rn.SQ b (Rn.cl l) = ss at *
  generalize hTY : Ex.TY b (Rn.cl l) = ty at *
  clear hWK hSQ hTY HWE HWF HVS HVL h hf hb hF hcl hlen hbb hbq
  rcases hbl with ⟨rfl, hbl⟩ | ⟨hb1, hbl⟩
  · rw [hbl] at HBA
    clear hbl
    go_enter Tryz.func11, Tryz.ntmps11
    go_wp2_with fail
    refine HWR.out.mono ?_
    rintro e w1 ⟨rfl, hk1⟩
    have HC1 := hide (HC.out w1 hk1)
    have HK1 := hide hk1
    clear hk1 HWR HC
    go_wp2_with fail
    refine HC1.out.mono ?_
    rintro e w2 ⟨ac, cc, rfl, hr2, hk2⟩
    have HB2 := hide (HBA.out w2 ac cc hr2)
    have HK2 := hide (KO.on HK1.out hk2)
    have HR2 := hide hr2
    clear hr2 hk2 HC1 HK1 HBA
    go_wp2_with fail
    refine HB2.out.mono ?_
    rintro e w2' ⟨rfl, rfl⟩
    have HRR := hide (HR.out w2 ac cc HR2.out)
    clear HB2 HR
    go_wp2_with fail
    refine HRR.out.mono ?_
    rintro e w3 ⟨al, cl, at', ct, rfl, hj3⟩
    have HS3 := hide (HS.out w3 ac cc (HR2.out.below hj3.bel))
    have HJ3 := hide hj3
    clear hj3 HRR HS
    go_wp2_with fail
    refine HS3.out.mono ?_
    rintro e w4 ⟨sa, cs, rfl, hso, hb4⟩
    have hsm : ss.length ≤ maxLen := by obtain ⟨hs, h1⟩ := hso; exact h1.small
    unfold maxLen at hsm
    have HL0 : Hid (LPV w2 w4 w3.heap.size (.slice al n cl) (.slice at' n ct) n (WK 0 0) ty (.slice sa ss.length cs) ss) := hide ⟨owns_below HJ3.out.oa hb4, owns_below HJ3.out.ob hb4, HJ3.out.ne, fun g hg => by
      rcases hg with hg | hg
      · exact (HJ3.out.oa.lt g hg).2
      · exact (HJ3.out.ob.lt g hg).2, hso, KO.on HJ3.out.bel hb4⟩
    obtain ⟨B, hB⟩ : ∃ B, w3.heap.size = B := ⟨_, rfl⟩
    rw [hB] at HL0
    clear hso hb4 hB HJ3 HS3 HR2
    generalize hN : ss.length = N at *
    have HN := hide hN
    clear hN
    go_wp2
    go_loopw [14] (fun s14 wr => ∃ j : Nat, j ≤ N ∧ s14 = .int .i64 (j : Int) ∧ Hid (LPV w2 wr B (.slice al n cl) (.slice at' n ct) n (WK j 0) ty (.slice sa N cs) ss)) (fun s14 _ => N - (intOf s14).toNat)
    case atStart => exact ⟨0, Nat.zero_le _, rfl, HL0⟩
    case round =>
      obtain ⟨j, hj, rfl, hm⟩ := hrel
      by_cases hlt : j < N
      · have hn0 := HPOS.out j hlt
        obtain ⟨g, cl2, eg, _, _⟩ := owns_pos hm.out.ow hn0
        obtain ⟨gt, ct2, et, _, _⟩ := owns_pos hm.out.ot hn0
        simp only [Value.slice.injEq, true_and] at eg et
        obtain ⟨rfl, rfl⟩ := eg
        obtain ⟨rfl, rfl⟩ := et
        have hjs : j < ss.length := by rw [HN.out]; exact hlt
        have hin : (j : Int) < (N : Int) := by omega
        have HLJ := hide hm.out.toW
        obtain ⟨hs, hso⟩ := hm.out.so
        rw [← HN.out] at hso
        obtain ⟨gj, cj, hs1⟩ := hso.one hjs
        obtain ⟨g0, rfl, hg0, c0, c1, c2, c3⟩ := hs1.pos
        have hb0 := (hso.oa.lt g0 rfl).1
        have HRJ := hide hs1.row
        have hgj := hs1.le
        have HGJ := hide (HG.out j hlt)
        have HWJ := hide (fun m hm => HWS.out j m hlt hm)
        have HWX := hide (HWN.out j hlt)
        have HIJ := hide (HIN.out j hlt)
        have hsh := HSH.out j hlt
        have hbt := HLJ.out.lt
        generalize hse : ss.getD j default = s at *
        obtain ⟨ps, x, y, z⟩ := s
        simp only at *
        generalize hnp : ps.length = np at *
        have HNP := hide hnp
        clear hse hm hso hs1 HL0 hnp
        have HSQ := hide (HSE.out (some ⟨gt, 0, none⟩) ct ty wr gj np cj ps x y z (KO.on HK2.out HLJ.out.bel) HLJ.out.types HRJ.out HIJ.out HGJ.out hsh)
        have HBL := hide (HLJ.out.ow.lt g rfl).2
        have HC0 := hide c0
        generalize Rn.F13 (Rn.pk l ps) (Rn.pk ty ps) x y z = L5 at *
        clear HGJ
        go_wp2_with fail
        refine HSQ.out.mono ?_
        rintro e w5 ⟨a5, c5, rfl, hr5, hk5, hf5⟩
        have HI0 := hide (show LPW w2 w5 B g gt n cl ct (WK j 0) ty (.slice (some ⟨g0, 0, none⟩) N cs) ss ∧ Row .i64 w5 a5 np c5 L5 ∧ Row .i64 w5 (some ⟨gj, 0, none⟩) np cj (Rn.zs ps) ∧ w5.cell? ⟨g0, j * 4, none⟩ = some (.slice (some ⟨gj, 0, none⟩) np cj) from ⟨HLJ.out.keep hk5, hr5, HRJ.out.below hk5, (Below.cell hk5 (by exact hg0)).trans HC0.out⟩)
        have HFR := hide hf5
        clear hr5 hk5 hf5 HSQ c0 c1 c2 c3 HC0 HLJ HRJ
        go_wp2
        go_loopw [16] (fun s16 wz => ∃ m : Nat, m ≤ np ∧ s16 = .int .i64 (m : Int) ∧ Hid (LPW w2 wz B g gt n cl ct (WK j m) ty (.slice (some ⟨g0, 0, none⟩) N cs) ss ∧ Row .i64 wz a5 np c5 L5 ∧ Row .i64 wz (some ⟨gj, 0, none⟩) np cj (Rn.zs ps) ∧ wz.cell? ⟨g0, j * 4, none⟩ = some (.slice (some ⟨gj, 0, none⟩) np cj))) (fun s16 _ => np - (intOf s16).toNat)
        case atStart => exact ⟨0, Nat.zero_le _, rfl, HI0⟩
        case round =>
          rename World => wz
          obtain ⟨m, hm, rfl, HI⟩ := hrel
          by_cases hmn : m < np
          · have hmi : (m : Int) < (np : Int) := by omega
            have hml : m < ps.length := by rw [HNP.out]; exact hmn
            have hpl := HIJ.out _ (Rn.getD_mem hml)
            have ca := rowAt HI.out.2.2.1 (KO.refl _) m hmn
            rw [Nat.zero_add, zs_at ps hml] at ca
            obtain ⟨b5, o5, e5, hb5, hc5⟩ := HI.out.2.1.cells (by omega)
            have cb := hc5 m (by rw [HI.out.2.1.len]; exact hmn)
            obtain ⟨cd, fd⟩ := HI.out.1.cell hpl
            have ce := HI.out.2.2.2
            have HI2 : Hid (LPW w2 (wz.setCell ⟨g, ps.getD m 0, none⟩ (.int .i64 (L5.getD m 0))) B g gt n cl ct (WK j (m + 1)) ty (.slice (some ⟨g0, 0, none⟩) N cs) ss ∧ Row .i64 (wz.setCell ⟨g, ps.getD m 0, none⟩ (.int .i64 (L5.getD m 0))) a5 np c5 L5 ∧ Row .i64 (wz.setCell ⟨g, ps.getD m 0, none⟩ (.int .i64 (L5.getD m 0))) (some ⟨gj, 0, none⟩) np cj (Rn.zs ps) ∧ (wz.setCell ⟨g, ps.getD m 0, none⟩ (.int .i64 (L5.getD m 0))).cell? ⟨g0, j * 4, none⟩ = some (.slice (some ⟨gj, 0, none⟩) np cj)) := by
              refine hide ⟨?_, fresh_apart HI.out.2.1 HFR.out HBL.out _ _, row_apart HI.out.2.2.1 (by omega) _ _, ?_⟩
              · rw [← HWJ.out m hmn]
                exact HI.out.1.set _ _
              · rw [World.cell?_setCell_other _ _ _ _ (fun e => by simp only [Addr.mk.injEq] at e; omega)]
                exact ce
            subst e5
            have hpi : ((ps.getD m 0 : Nat) : Int) < (n : Int) := by omega
            clear hc5 HI HI0
            generalize L5.getD m 0 = v5 at *
            generalize (WK j m).getD (ps.getD m 0) 0 = v0 at *
            generalize ps.getD m 0 = pm at *
            go_wp2
            go_region
            go_wp2
            go_roundw
            case rel => exact ⟨m + 1, by omega, by go_num, hide ⟨HI2.out.1.keep (KO.drew (KO.refl _)), HI2.out.2.1.below (KO.drew (KO.refl _)), HI2.out.2.2.1.below (KO.drew (KO.refl _)), HI2.out.2.2.2⟩⟩
            case measure => simp [intOf]; omega
          · obtain rfl : m = np := by omega
            have hne2 : ¬ ((m : Int) < (m : Int)) := by omega
            have HJ2 := HI.out.1
            rw [HWX.out] at HJ2
            have HJ3 := hide HJ2.toV
            clear HJ2 HI HI0
            go_wp2
            go_roundw
            case rel => exact ⟨j + 1, by omega, by go_num, HJ3⟩
            case measure => simp [intOf]; omega
      · obtain rfl : j = N := by omega
        have hne : ¬ ((j : Int) < (j : Int)) := by omega
        obtain ⟨a6, c6, e6, r6⟩ := row_of_owns hm.out.ow
        simp only [Value.slice.injEq, true_and] at e6
        obtain ⟨rfl, rfl⟩ := e6
        have HE := hide (show Row .i64 wr al n cl (WK ss.length 0) ∧ KO w wr from ⟨by rw [HN.out]; exact r6, KO.on HK2.out hm.out.bel⟩)
        clear hm r6
        go_wp2
        go_ret3
        exact ⟨_, _, rfl, HE.out.1, HE.out.2⟩
  · obtain rfl := hbl.symm
    clear HBA hbl
    have hbq : (b == -1) = false := beq_false_of_ne hb1
    go_enter Tryz.func11, Tryz.ntmps11
    go_wp2_with fail
    refine HWR.out.mono ?_
    rintro e w1 ⟨rfl, hk1⟩
    have HC1 := hide (HC.out w1 hk1)
    have HK1 := hide hk1
    clear hk1 HWR HC
    go_wp2_with fail
    refine HC1.out.mono ?_
    rintro e w2 ⟨ac, cc, rfl, hr2, hk2⟩
    have HK2 := hide (KO.on HK1.out hk2)
    have HR2 := hide hr2
    have HRR := hide (HR.out w2 ac cc hr2)
    clear hr2 hk2 HC1 HK1 HR
    go_wp2_with fail
    refine HRR.out.mono ?_
    rintro e w3 ⟨al, cl, at', ct, rfl, hj3⟩
    have HS3 := hide (HS.out w3 ac cc (HR2.out.below hj3.bel))
    have HJ3 := hide hj3
    clear hj3 HRR HS
    go_wp2_with fail
    refine HS3.out.mono ?_
    rintro e w4 ⟨sa, cs, rfl, hso, hb4⟩
    have hsm : ss.length ≤ maxLen := by obtain ⟨hs, h1⟩ := hso; exact h1.small
    unfold maxLen at hsm
    have HL0 : Hid (LPV w2 w4 w3.heap.size (.slice al n cl) (.slice at' n ct) n (WK 0 0) ty (.slice sa ss.length cs) ss) := hide ⟨owns_below HJ3.out.oa hb4, owns_below HJ3.out.ob hb4, HJ3.out.ne, fun g hg => by
      rcases hg with hg | hg
      · exact (HJ3.out.oa.lt g hg).2
      · exact (HJ3.out.ob.lt g hg).2, hso, KO.on HJ3.out.bel hb4⟩
    obtain ⟨B, hB⟩ : ∃ B, w3.heap.size = B := ⟨_, rfl⟩
    rw [hB] at HL0
    clear hso hb4 hB HJ3 HS3 HR2
    generalize hN : ss.length = N at *
    have HN := hide hN
    clear hN
    go_wp2
    go_loopw [14] (fun s14 wr => ∃ j : Nat, j ≤ N ∧ s14 = .int .i64 (j : Int) ∧ Hid (LPV w2 wr B (.slice al n cl) (.slice at' n ct) n (WK j 0) ty (.slice sa N cs) ss)) (fun s14 _ => N - (intOf s14).toNat)
    case atStart => exact ⟨0, Nat.zero_le _, rfl, HL0⟩
    case round =>
      obtain ⟨j, hj, rfl, hm⟩ := hrel
      by_cases hlt : j < N
      · have hn0 := HPOS.out j hlt
        obtain ⟨g, cl2, eg, _, _⟩ := owns_pos hm.out.ow hn0
        obtain ⟨gt, ct2, et, _, _⟩ := owns_pos hm.out.ot hn0
        simp only [Value.slice.injEq, true_and] at eg et
        obtain ⟨rfl, rfl⟩ := eg
        obtain ⟨rfl, rfl⟩ := et
        have hjs : j < ss.length := by rw [HN.out]; exact hlt
        have hin : (j : Int) < (N : Int) := by omega
        have HLJ := hide hm.out.toW
        obtain ⟨hs, hso⟩ := hm.out.so
        rw [← HN.out] at hso
        obtain ⟨gj, cj, hs1⟩ := hso.one hjs
        obtain ⟨g0, rfl, hg0, c0, c1, c2, c3⟩ := hs1.pos
        have hb0 := (hso.oa.lt g0 rfl).1
        have HRJ := hide hs1.row
        have hgj := hs1.le
        have HGJ := hide (HG.out j hlt)
        have HWJ := hide (fun m hm => HWS.out j m hlt hm)
        have HWX := hide (HWN.out j hlt)
        have HIJ := hide (HIN.out j hlt)
        have hsh := HSH.out j hlt
        have hbt := HLJ.out.lt
        generalize hse : ss.getD j default = s at *
        obtain ⟨ps, x, y, z⟩ := s
        simp only at *
        generalize hnp : ps.length = np at *
        have HNP := hide hnp
        clear hse hm hso hs1 HL0 hnp
        have HSQ := hide (HSE.out (some ⟨gt, 0, none⟩) ct ty wr gj np cj ps x y z (KO.on HK2.out HLJ.out.bel) HLJ.out.types HRJ.out HIJ.out HGJ.out hsh)
        have HBL := hide (HLJ.out.ow.lt g rfl).2
        have HC0 := hide c0
        generalize Rn.F13 (Rn.pk l ps) (Rn.pk ty ps) x y z = L5 at *
        clear HGJ
        go_wp2_with fail
        refine HSQ.out.mono ?_
        rintro e w5 ⟨a5, c5, rfl, hr5, hk5, hf5⟩
        have HI0 := hide (show LPW w2 w5 B g gt n cl ct (WK j 0) ty (.slice (some ⟨g0, 0, none⟩) N cs) ss ∧ Row .i64 w5 a5 np c5 L5 ∧ Row .i64 w5 (some ⟨gj, 0, none⟩) np cj (Rn.zs ps) ∧ w5.cell? ⟨g0, j * 4, none⟩ = some (.slice (some ⟨gj, 0, none⟩) np cj) from ⟨HLJ.out.keep hk5, hr5, HRJ.out.below hk5, (Below.cell hk5 (by exact hg0)).trans HC0.out⟩)
        have HFR := hide hf5
        clear hr5 hk5 hf5 HSQ c0 c1 c2 c3 HC0 HLJ HRJ
        go_wp2
        go_loopw [16] (fun s16 wz => ∃ m : Nat, m ≤ np ∧ s16 = .int .i64 (m : Int) ∧ Hid (LPW w2 wz B g gt n cl ct (WK j m) ty (.slice (some ⟨g0, 0, none⟩) N cs) ss ∧ Row .i64 wz a5 np c5 L5 ∧ Row .i64 wz (some ⟨gj, 0, none⟩) np cj (Rn.zs ps) ∧ wz.cell? ⟨g0, j * 4, none⟩ = some (.slice (some ⟨gj, 0, none⟩) np cj))) (fun s16 _ => np - (intOf s16).toNat)
        case atStart => exact ⟨0, Nat.zero_le _, rfl, HI0⟩
        case round =>
          rename World => wz
          obtain ⟨m, hm, rfl, HI⟩ := hrel
          by_cases hmn : m < np
          · have hmi : (m : Int) < (np : Int) := by omega
            have hml : m < ps.length := by rw [HNP.out]; exact hmn
            have hpl := HIJ.out _ (Rn.getD_mem hml)
            have ca := rowAt HI.out.2.2.1 (KO.refl _) m hmn
            rw [Nat.zero_add, zs_at ps hml] at ca
            obtain ⟨b5, o5, e5, hb5, hc5⟩ := HI.out.2.1.cells (by omega)
            have cb := hc5 m (by rw [HI.out.2.1.len]; exact hmn)
            obtain ⟨cd, fd⟩ := HI.out.1.cell hpl
            have ce := HI.out.2.2.2
            have HI2 : Hid (LPW w2 (wz.setCell ⟨g, ps.getD m 0, none⟩ (.int .i64 (L5.getD m 0))) B g gt n cl ct (WK j (m + 1)) ty (.slice (some ⟨g0, 0, none⟩) N cs) ss ∧ Row .i64 (wz.setCell ⟨g, ps.getD m 0, none⟩ (.int .i64 (L5.getD m 0))) a5 np c5 L5 ∧ Row .i64 (wz.setCell ⟨g, ps.getD m 0, none⟩ (.int .i64 (L5.getD m 0))) (some ⟨gj, 0, none⟩) np cj (Rn.zs ps) ∧ (wz.setCell ⟨g, ps.getD m 0, none⟩ (.int .i64 (L5.getD m 0))).cell? ⟨g0, j * 4, none⟩ = some (.slice (some ⟨gj, 0, none⟩) np cj)) := by
              refine hide ⟨?_, fresh_apart HI.out.2.1 HFR.out HBL.out _ _, row_apart HI.out.2.2.1 (by omega) _ _, ?_⟩
              · rw [← HWJ.out m hmn]
                exact HI.out.1.set _ _
              · rw [World.cell?_setCell_other _ _ _ _ (fun e => by simp only [Addr.mk.injEq] at e; omega)]
                exact ce
            subst e5
            have hpi : ((ps.getD m 0 : Nat) : Int) < (n : Int) := by omega
            clear hc5 HI HI0
            generalize L5.getD m 0 = v5 at *
            generalize (WK j m).getD (ps.getD m 0) 0 = v0 at *
            generalize ps.getD m 0 = pm at *
            go_wp2
            go_region
            go_wp2
            go_roundw
            case rel => exact ⟨m + 1, by omega, by go_num, hide ⟨HI2.out.1.keep (KO.drew (KO.refl _)), HI2.out.2.1.below (KO.drew (KO.refl _)), HI2.out.2.2.1.below (KO.drew (KO.refl _)), HI2.out.2.2.2⟩⟩
            case measure => simp [intOf]; omega
          · obtain rfl : m = np := by omega
            have hne2 : ¬ ((m : Int) < (m : Int)) := by omega
            have HJ2 := HI.out.1
            rw [HWX.out] at HJ2
            have HJ3 := hide HJ2.toV
            clear HJ2 HI HI0
            go_wp2
            go_roundw
            case rel => exact ⟨j + 1, by omega, by go_num, HJ3⟩
            case measure => simp [intOf]; omega
      · obtain rfl : j = N := by omega
        have hne : ¬ ((j : Int) < (j : Int)) := by omega
        obtain ⟨a6, c6, e6, r6⟩ := row_of_owns hm.out.ow
        simp only [Value.slice.injEq, true_and] at e6
        obtain ⟨rfl, rfl⟩ := e6
        have HE := hide (show Row .i64 wr al n cl (WK ss.length 0) ∧ KO w wr from ⟨by rw [HN.out]; exact r6, KO.on HK2.out hm.out.bel⟩)
        clear hm r6
        go_wp2
        go_ret3
        exact ⟨_, _, rfl, HE.out.1, HE.out.2⟩
theorem rparagraph12_any (ao : Option Addr) (n cap : Nat) (l : List Int) (base : Int) (w : World) (h : Row .i32 w ao n cap l) (hf : ∀ x ∈ l, (Lit.int .i32 x).wf = true) (hn : n ≤ 300 ∨ 4096 < n) (m : Int) (L : List Int) (E : Int) (hA : Rn.PA l base m L E) :
    Calls Tryz.prog 11 #[.slice ao n cap, .int .i64 base] w (RPA w m L E) := by
  have hl := h.len
  have hbad : ∀ E, ¬ E = 0 → WA12 l base E → Calls Tryz.prog 11 #[.slice ao n cap, .int .i64 base] w (RPA w 0 [] E) := by
    intro E hE hW
    have HWR := hide (rwrong12_any ao n cap l base E w h hf hW)
    have hEb : (E != 0) = true := bne_iff_ne.2 hE
    clear h hf hW hl hA hn
    go_enter Tryz.func11, Tryz.ntmps11
    go_wp2_with fail
    refine HWR.out.mono ?_
    rintro e w1 ⟨rfl, hk1⟩
    have HK := hide hk1
    clear hk1 HWR
    go_wp2
    go_ret3
    exact RPA.err HK.out
  rcases hA with ⟨hb, rfl, rfl, rfl⟩ | ⟨hb, h2, rfl, rfl, rfl⟩ | ⟨hb, h2, h3, rfl, rfl, rfl⟩ | ⟨hb, h2, h3, rfl, rfl, rfl⟩
  · exact hbad 2 (by decide) (.inl ⟨hb, rfl⟩)
  · exact hbad 3 (by decide) (.inr (.inl ⟨hb, h2, rfl⟩))
  · exact hbad 50 (by decide) (.inr (.inr (.inl ⟨hb, by omega, h3, rfl⟩)))
  · exact rparagraph12_ok ao none n cap 0 l base w h hf (by omega) hb h3
end Go.Proofs.YtfadjgaledddjaaGreatDoor
