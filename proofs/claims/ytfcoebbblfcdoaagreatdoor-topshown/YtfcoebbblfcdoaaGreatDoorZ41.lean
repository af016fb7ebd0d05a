import Derived.Test.YtfcoebbblfcdoaaGreatDoorZ35
import Derived.Test.YtfcoebbblfcdoaaGreatDoorZ30
import Derived.Test.YtfcoebbblfcdoaaGreatDoorZ05
import Derived.Test.YtfcoebbblfcdoaaGreatDoorZ40
/- The document's Resolve. -/
namespace Go.Proofs.YtfcoebbblfcdoaaGreatDoor
open Go.RowKit
set_option linter.unusedVariables false
set_option maxHeartbeats 2000000
set_option maxRecDepth 100000
theorem rlev_rm {b : Int} {s : Ex.St} {c : List Int} {k : Nat} (h : Ex.rm (c.getD k 0) = true) : Ex.lev b s c k = -1 /\ Ex.typ s c k = c.getD k 0 := by
 unfold Ex.lev Ex.typ Ex.tl Ex.ty
 rw [if_pos h, if_pos h]
 exact ⟨rfl, rfl⟩
theorem rlev_sep {b : Int} {s : Ex.St} {c : List Int} {k : Nat} (h : c.getD k 0 = 11) : Ex.lev b s c k = b /\ Ex.typ s c k = c.getD k 0 := by
 unfold Ex.lev Ex.typ Ex.tl Ex.ty
 rw [h]
 exact ⟨rfl, rfl⟩
def lvP (b : Int) (c : List Int) (k : Nat) : List Int := (List.range k).map (Ex.lev b (Ex.s0 b) c)
def tyP (b : Int) (c : List Int) (k : Nat) : List Int := (List.range k).map (Ex.typ (Ex.s0 b) c)
theorem lvP_succ (b : Int) (c : List Int) (k : Nat) : lvP b c (k + 1) = lvP b c k ++ [Ex.lev b (Ex.s0 b) c k] := by simp [lvP, List.range_succ]
theorem tyP_succ (b : Int) (c : List Int) (k : Nat) : tyP b c (k + 1) = tyP b c k ++ [Ex.typ (Ex.s0 b) c k] := by simp [tyP, List.range_succ]
def VP (W : World) (p g n cap : Nat) (oi oe va : Int) : Prop := W.heap[p]? = some (.cells (wc4 g n cap oi oe va) 94 (0, 0))
section
variable {W : World} {p g n cap : Nat} {oi oe va : Int}
theorem VP.below (h : VP W p g n cap oi oe va) {W' : World} (hb : Below W.heap.size W W') : VP W' p g n cap oi oe va := (hb.block p (Array.getElem?_eq_some_iff.1 h).1).trans h
theorem VP.c (h : VP W p g n cap oi oe va) : W.cell? ⟨p, 0, none⟩ = some (.slice (some ⟨g, 0, none⟩) n cap) /\ W.cell? ⟨p, 1, none⟩ = some (.int .i64 oi) /\ W.cell? ⟨p, 2, none⟩ = some (.int .i64 oe) /\ W.cell? ⟨p, 3, none⟩ = some (.int .i64 va) := by
 unfold VP at h
 refine ⟨?_, ?_, ?_, ?_⟩ <;> simp [World.cell?, h, wc4]
theorem VP.f (h : VP W p g n cap oi oe va) (j : Nat) : W.frozen? ⟨p, j, none⟩ = false := by
 unfold VP at h
 simp [World.frozen?, h]
theorem VP.set4 (h : VP W p g n cap oi oe va) (g' n' cap' : Nat) (a b c : Int) : VP ((((W.setCell ⟨p, 0, none⟩ (.slice (some ⟨g', 0, none⟩) n' cap')).setCell ⟨p, 1, none⟩ (.int .i64 a)).setCell ⟨p, 2, none⟩ (.int .i64 b)).setCell ⟨p, 3, none⟩ (.int .i64 c)) p g' n' cap' a b c := set_heap (set_heap (set_heap (set_heap h _) _) _) _
end
theorem J2.other {e : TypeId} {w0 w : World} {va : Value} {na : Nat} {xa : List Int} {vb : Value} {nb : Nat} {xb : List Int} (h : J2 e w0 w va na xa vb nb xb) {p j : Nat} {v : Value} (hp : w0.heap.size <= p) (ha : ∀ g, va.ownBlock = some g -> ¬ g = p) (hb : ∀ g, vb.ownBlock = some g -> ¬ g = p) : J2 e w0 (w.setCell ⟨p, j, none⟩ v) va na xa vb nb xb := by
 refine ⟨?_, ?_, h.ne, h.bel.setCell (p := ⟨p, j, none⟩) hp v⟩
 ·rcases h.oa.2 with ⟨rfl, rfl⟩ | ⟨g, cap, cur, rfl, hbs, hg, rest⟩
  ·exact ⟨h.oa.1, .inl ⟨rfl, rfl⟩⟩
  ·exact ⟨h.oa.1, .inr ⟨g, cap, cur, rfl, hbs, set_heap_other hg (fun h0 => ha g rfl h0.symm) v, rest⟩⟩
 ·rcases h.ob.2 with ⟨rfl, rfl⟩ | ⟨g, cap, cur, rfl, hbs, hg, rest⟩
  ·exact ⟨h.ob.1, .inl ⟨rfl, rfl⟩⟩
  ·exact ⟨h.ob.1, .inr ⟨g, cap, cur, rfl, hbs, set_heap_other hg (fun h0 => hb g rfl h0.symm) v, rest⟩⟩
theorem WA.alloc {w : World} {st : List Ex.Ent} {g n cap : Nat} (h : WA w st g n cap) (o : Obj) : WA (w.alloc o) st g n cap := h.below (Below.alloc (Below.refl _ _) (Nat.le_refl _) o)
theorem rresolve_own (ao : Option Addr) (n cap0 : Nat) (c : List Int) (b : Int) (w : World) (h : Row .i64 w ao n cap0 c) (hn : n <= 300) (hb : b = 0 \/ b = 1) (hF : Ex.Formed c) :
  Calls Tryz.prog 33 #[.slice ao n cap0, .int .i64 b] w fun e w' => ∃ al cl at' ct, e = .returned (.tuple #[.slice al n cl, .slice at' n ct, .int .i64 0]) /\ J2 3 w w' (.slice al n cl) n (Ex.LV b c) (.slice at' n ct) n (Ex.TY b c) := by
 have HP := hide (rformed_any ao n cap0 c w h hn true (by simp [hF]))
 have H := hide h
 have HL := hide h.len
 have h1 : ¬ b < 0 := by omega
 have h2 : ¬ 1 < b := by omega
 have hb0 : 0 <= b := by omega
 have hb1 : b <= 1 := by omega
 obtain ⟨ii, hii, hy0, hy1, hy2⟩ := info_parts infoInt
 have HII : Hid (Tryz.prog.info? 3 = some ii) := hii
 have HY0 := hide hy0
 have HY1 := hide hy1
 have HY2 := hide hy2
 have hfl := rfield_lv
 have hfo := rfield_ov
 clear h hF hb hii hy0 hy1 hy2
 go_enter Tryz.func33, Tryz.ntmps33
 go_wp2_with (go_at_call 50; refine HP.out.mono ?_; rintro e w' ⟨rfl, rfl⟩)
 go_loopw [7, 8, 9] (fun s7 s8 s9 wr => ∃ k : Nat, k <= n /\ s9 = .int .i64 (k : Int) /\ Hid (J2 3 w wr s7 k (lvP b c k) s8 k (tyP b c k))) (fun _ _ s9 _ => n - (intOf s9).toNat)
 case atStart => exact ⟨0, Nat.zero_le _, rfl, hide (J2.begin w)⟩
 case round =>
  obtain ⟨k, hk, rfl, hj⟩ := hrel
  by_cases hlt : k < n
  ·have hkl : k < c.length := by rw [HL.out]; exact hlt
   obtain ⟨cb, off, rfl, hbl, hc⟩ := H.out.cells (by omega)
   have HCK := hide (fun (w' : World) (hb : Below w.heap.size w w') => ((hb.cell (by exact hbl)).trans (hc k hkl) : w'.cell? ⟨cb, off + k, none⟩ = some (.int .i64 (c.getD k 0))))
   have hin : (k : Int) < (n : Int) := by omega
   have HRE := hide (fun w' => rremoved_any (c.getD k 0) w')
   have HLV := hide (lvP_succ b c k)
   have HTY := hide (tyP_succ b c k)
   have hA1 := rlev_rm (b := b) (s := Ex.s0 b) (c := c) (k := k)
   have hA2 := rlev_sep (b := b) (s := Ex.s0 b) (c := c) (k := k)
   have hlev : Ex.lev b (Ex.s0 b) c k = Ex.tl b (Ex.mid (Ex.at' (Ex.s0 b) c k) (c.getD k 0)) (c.getD k 0) := rfl
   have htyp : Ex.typ (Ex.s0 b) c k = Ex.ty (Ex.mid (Ex.at' (Ex.s0 b) c k) (c.getD k 0)) (c.getD k 0) := rfl
   have ck := HCK.out wr hj.out.bel
   obtain ⟨a7, c7, e7, _⟩ := owns_form hj.out.oa
   obtain ⟨a8, c8, e8, _⟩ := owns_form hj.out.ob
   subst e7 e8
   clear hc
   cases hr : Ex.rm (c.getD k 0) with
   | true =>
    obtain ⟨g1, g2⟩ := hA1 hr
    rw [g1] at HLV
    rw [g2] at HTY
    rw [hr] at HRE
    clear hA1 hA2 hlev htyp g1 g2 hr hkl
    generalize c.getD k 0 = x at *
    have hJ := hj.out
    clear hj
    go_wp2_with (first
     | (go_at_call 53; refine (HRE.out _).mono ?_; rintro e w2 ⟨rfl, rfl⟩)
     | (at_builtin; refine wpList_j2 ((hJ).below (Below.alloc (Below.refl _ _) (Nat.le_refl _) _)) rfl (.tmp 32) (.tmp 33) 30 rfl ii _ Tryz.underlying30 HII.out HY0.out HY1.out HY2.out rfl rfl _ (-1) rfl (row_one _ _ rfl (-1)) (by omega) ?_; intro ga cga wga hJn; replace hJ := hJn; clear hJn; have ckga := HCK.out _ hJ.bel)
     | (at_builtin; refine wpList_j2 ((hJ.symm).below (Below.alloc (Below.refl _ _) (Nat.le_refl _) _)) rfl (.tmp 35) (.tmp 40) 30 rfl ii _ Tryz.underlying30 HII.out HY0.out HY1.out HY2.out rfl rfl _ x rfl (row_one _ _ rfl x) (by omega) ?_; intro gb cgb wgb hJn; replace hJ := hJn.symm; clear hJn; have ckgb := HCK.out _ hJ.bel))
    have HJ := hide hJ
    rw [<- HLV.out, <- HTY.out] at HJ
    clear hJ
    go_wp2
    go_roundw
    case rel => exact ⟨k + 1, by omega, by go_num, HJ⟩
    case measure => simp [intOf]; omega
   | false =>
    rw [hr] at HRE
    by_cases hx11 : c.getD k 0 = 11
    ·obtain ⟨g1, g2⟩ := hA2 hx11
     rw [g1] at HLV
     rw [g2, hx11] at HTY
     rw [hx11] at ck HRE HCK
     clear hA1 hA2 hlev htyp g1 g2 hr hkl hx11
     have hJ := hj.out
     clear hj
     go_wp2_with (first
      | (go_at_call 53; refine (HRE.out _).mono ?_; rintro e w2 ⟨rfl, rfl⟩)
      | (at_builtin; refine wpList_j2 ((hJ).below (Below.alloc (Below.refl _ _) (Nat.le_refl _) _)) rfl (.tmp 47) (.tmp 49) 30 rfl ii _ Tryz.underlying30 HII.out HY0.out HY1.out HY2.out rfl rfl _ b rfl (row_one _ _ rfl b) (by omega) ?_; intro ga cga wga hJn; replace hJ := hJn; clear hJn; have ckga := HCK.out _ hJ.bel)
      | (at_builtin; refine wpList_j2 ((hJ.symm).below (Below.alloc (Below.refl _ _) (Nat.le_refl _) _)) rfl (.tmp 51) (.tmp 56) 30 rfl ii _ Tryz.underlying30 HII.out HY0.out HY1.out HY2.out rfl rfl _ 11 rfl (row_one _ _ rfl 11) (by omega) ?_; intro gb cgb wgb hJn; replace hJ := hJn.symm; clear hJn; have ckgb := HCK.out _ hJ.bel))
     have HJ := hide hJ
     rw [<- HLV.out, <- HTY.out] at HJ
     clear hJ
     go_wp2
     go_roundw
     case rel => exact ⟨k + 1, by omega, by go_num, HJ⟩
     case measure => simp [intOf]; omega
    ·obtain ⟨f1, f2⟩ := Ex.tl_kept (b := b) (S := Ex.mid (Ex.at' (Ex.s0 b) c k) (c.getD k 0)) hr hx11
     rw [hlev, f1] at HLV
     rw [htyp, f2] at HTY
     have hok : Ex.Ok b (Ex.at' (Ex.s0 b) c k) k := Ex.Ok.at c k
     have hokm := hok.mid (c.getD k 0)
     have HAH := hide (rahead_any (some ⟨cb, off, none⟩) n cap0 c b k wr (H.out.below hj.out.bel) hn hb0 hb1 hk)
     have x11 : (c.getD k 0 == 11) = false := beq_false_of_ne hx11
     have HRW := hide (fun (w' : World) (hb : Below wr.heap.size wr w') => H.out.below (KO.on hj.out.bel hb))
     clear hA1 hA2 hlev htyp f1 f2 hkl hx11
     by_cases hx23 : c.getD k 0 = 23
     ·have hmid : Ex.step (Ex.at' (Ex.s0 b) c k) (c.getD k 0) (c.drop (k + 1)) = Ex.mid (Ex.at' (Ex.s0 b) c k) (c.getD k 0) := by rw [hx23]; rfl
      have HOK := hide hok
      have HPOS := hide hokm.ch.pos
      generalize hM : Ex.mid (Ex.at' (Ex.s0 b) c k) (c.getD k 0) = M at *
      generalize Ex.at' (Ex.s0 b) c k = S at *
      rw [hx23] at ck HRE HTY
      have HMID := hide hmid
      have HX := hide hx23
      clear hr hok hokm hM hmid x11
      go_wp2_with (first
       | (go_at_call 53; refine (HRE.out _).mono ?_; rintro e w2 ⟨rfl, rfl⟩)
       | (go_at_call 54; fail))
      refine HAH.out.mono ?_
      rintro e w1 ⟨g, n', cap', rfl, hA1, hb1'⟩
      obtain ⟨W2, hW2⟩ : ∃ W2, w1.alloc (.cells #[.slice (some ⟨g, 0, none⟩) n' cap', .int .i64 (S.oi : Int), .int .i64 (S.oe : Int), .int .i64 (S.va : Int)] 94) = W2 := ⟨_, rfl⟩
      have hbW : Below w1.heap.size w1 W2 := by rw [<- hW2]; exact Below.alloc (Below.refl _ _) (Nat.le_refl _) _
      have hV2 : VP W2 w1.heap.size g n' cap' (S.oi : Int) (S.oe : Int) (S.va : Int) := by rw [<- hW2]; exact heap_alloc_last w1 _
      have hA2 := hA1.below hbW
      have hJ1 := hj.out.below hb1'
      have hJ2 := hJ1.below hbW
      have ck1 := HCK.out w1 hJ1.bel
      have ck2 := HCK.out W2 hJ2.bel
      rw [HX.out] at ck1 ck2
      obtain ⟨p0, p1, p2, p3⟩ := hV2.c
      have HBH := hide (rbehind_any (S := M) hA2 HOK.out hb0 hb1 (by omega) (some ⟨cb, off, none⟩) n cap0 c (HRW.out _ (KO.on hb1' hbW)) hn k hlt HMID.out)
      have HJ2 := hide hJ2
      have HV2 := hide hV2
      have HSZ := hide (show ∀ g, (Value.slice a7 k c7).ownBlock = some g \/ (Value.slice a8 k c8).ownBlock = some g -> g < w1.heap.size from fun g h => by
       rcases h with h | h
       ·exact (hJ1.oa.lt g h).2
       ·exact (hJ1.ob.lt g h).2)
      have HSW := hide hJ1.bel.size
      clear hA1 hA2 hJ1 hJ2 hV2 hb1' hbW hj HAH
      go_wp2_with fail
      refine HBH.out.mono ?_
      rintro e w3 ⟨g3, n3, c3, rfl, hA3, hb3⟩
      have hV3 := HV2.out.below hb3
      have hJ3 := HJ2.out.below hb3
      have hV := hV3.set4 g3 n3 c3 (M.oi : Int) (M.oe : Int) (M.va : Int)
      have hA := hA3.set4' (hA3.notWay hV3) g3 n3 c3 (M.oi : Int) (M.oe : Int) (M.va : Int)
      have ha : ∀ g, (Value.slice a7 k c7).ownBlock = some g -> ¬ g = w1.heap.size := fun g h => by have := HSZ.out g (.inl h); omega
      have hb : ∀ g, (Value.slice a8 k c8).ownBlock = some g -> ¬ g = w1.heap.size := fun g h => by have := HSZ.out g (.inr h); omega
      have hJ := (((hJ3.other (j := 0) (v := .slice (some ⟨g3, 0, none⟩) n3 c3) HSW.out ha hb).other (j := 1) (v := .int .i64 (M.oi : Int)) HSW.out ha hb).other (j := 2) (v := .int .i64 (M.oe : Int)) HSW.out ha hb).other (j := 3) (v := .int .i64 (M.va : Int)) HSW.out ha hb
      obtain ⟨t0, t1, t2, t3⟩ := hV3.c
      have tf0 := hV3.f 0
      have tf1 := hV3.f 1
      have tf2 := hV3.f 2
      have tf3 := hV3.f 3
      obtain ⟨W4, hW4⟩ : ∃ W4, (((w3.setCell ⟨w1.heap.size, 0, none⟩ (.slice (some ⟨g3, 0, none⟩) n3 c3)).setCell ⟨w1.heap.size, 1, none⟩ (.int .i64 (M.oi : Int))).setCell ⟨w1.heap.size, 2, none⟩ (.int .i64 (M.oe : Int))).setCell ⟨w1.heap.size, 3, none⟩ (.int .i64 (M.va : Int)) = W4 := ⟨_, rfl⟩
      rw [hW4] at hV hA hJ
      have hn0 : 0 < n3 := by have := hA.len; have := HPOS.out; omega
      clear hV3 hA3 hJ3 hb3 HBH HJ2 HV2 p0 p1 p2 p3 ck2 ha hb HSZ
      obtain ⟨p0, p1, p2, p3⟩ := hV.c
      have ck4 := HCK.out W4 hJ.bel
      rw [HX.out] at ck4
      by_cases hov : (Ex.hd M.st).ov = 0
      ·rw [if_pos hov] at HTY
       go_wp2_with (first
        | (go_at_call 56; refine (rlast_any hA hn0 _ _ _).mono ?_; rintro e wl ⟨rfl, hbl2⟩; replace hJ := hJ.below hbl2; replace hV := hV.below hbl2; replace hA := hA.below hbl2; clear hbl2 p0 p1 p2 p3; obtain ⟨p0, p1, p2, p3⟩ := hV.c; have ckl := HCK.out _ hJ.bel; rw [HX.out] at ckl)
        | (at_builtin; refine wpList_j2 ((hJ).below (Below.alloc (Below.refl _ _) (Nat.le_refl _) _)) rfl (.tmp 82) (.tmp 86) 30 rfl ii _ Tryz.underlying30 HII.out HY0.out HY1.out HY2.out rfl rfl _ (Ex.hd M.st).lv rfl (row_one _ _ rfl (Ex.hd M.st).lv) (by omega) ?_; intro ga cga wga hJn; replace hJ := hJn; clear hJn; have ckga := HCK.out _ hJ.bel)
        | (at_builtin; refine wpList_j2 ((hJ.symm).below (Below.alloc (Below.refl _ _) (Nat.le_refl _) _)) rfl (.tmp 88) (.tmp 90) 30 rfl ii _ Tryz.underlying30 HII.out HY0.out HY1.out HY2.out rfl rfl _ 23 rfl (row_one _ _ rfl 23) (by omega) ?_; intro gb cgb wgb hJn; replace hJ := hJn.symm; clear hJn; have ckgb := HCK.out _ hJ.bel))
       have HJ := hide hJ
       rw [<- HLV.out, <- HTY.out] at HJ
       clear hJ hV hA
       go_wp2
       go_roundw
       case rel => exact ⟨k + 1, by omega, by go_num, HJ⟩
       case measure => simp [intOf]; omega
      ·rw [if_neg hov] at HTY
       have hov2 : ((Ex.hd M.st).ov != 0) = true := bne_iff_ne.2 hov
       go_wp2_with (first
        | (go_at_call 56; refine (rlast_any hA hn0 _ _ _).mono ?_; rintro e wl ⟨rfl, hbl2⟩; replace hJ := hJ.below hbl2; replace hV := hV.below hbl2; replace hA := hA.below hbl2; clear hbl2 p0 p1 p2 p3; obtain ⟨p0, p1, p2, p3⟩ := hV.c; have ckl := HCK.out _ hJ.bel; rw [HX.out] at ckl)
        | (at_builtin; refine wpList_j2 ((hJ).below (Below.alloc (Below.refl _ _) (Nat.le_refl _) _)) rfl (.tmp 82) (.tmp 86) 30 rfl ii _ Tryz.underlying30 HII.out HY0.out HY1.out HY2.out rfl rfl _ (Ex.hd M.st).lv rfl (row_one _ _ rfl (Ex.hd M.st).lv) (by omega) ?_; intro ga cga wga hJn; replace hJ := hJn; clear hJn; have ckga := HCK.out _ hJ.bel)
        | (at_builtin; refine wpList_j2 ((hJ.symm).below (Below.alloc (Below.refl _ _) (Nat.le_refl _) _)) rfl (.tmp 88) (.tmp 90) 30 rfl ii _ Tryz.underlying30 HII.out HY0.out HY1.out HY2.out rfl rfl _ (Ex.hd M.st).ov rfl (row_one _ _ rfl (Ex.hd M.st).ov) (by omega) ?_; intro gb cgb wgb hJn; replace hJ := hJn.symm; clear hJn; have ckgb := HCK.out _ hJ.bel))
       have HJ := hide hJ
       rw [<- HLV.out, <- HTY.out] at HJ
       clear hJ hV hA
       go_wp2
       go_roundw
       case rel => exact ⟨k + 1, by omega, by go_num, HJ⟩
       case measure => simp [intOf]; omega
     ·have hmid : Ex.mid (Ex.at' (Ex.s0 b) c k) (c.getD k 0) = Ex.at' (Ex.s0 b) c k := by
       rcases rm_cases (c.getD k 0) with ⟨h5, _⟩ | ⟨_, h5⟩
       ·rw [h5] at hr; cases hr
       ·exact mid_other ⟨h5.1, h5.2.1, h5.2.2.1, h5.2.2.2.1, h5.2.2.2.2.1, hx23⟩
      rw [hmid] at HLV HTY hokm
      have x23 : (c.getD k 0 == 23) = false := beq_false_of_ne hx23
      have HPOS := hide hokm.ch.pos
      generalize Ex.at' (Ex.s0 b) c k = M at *
      generalize c.getD k 0 = x at *
      clear hmid hr hx23 hok hokm
      go_wp2_with (first
       | (go_at_call 53; refine (HRE.out _).mono ?_; rintro e w2 ⟨rfl, rfl⟩)
       | (go_at_call 54; fail))
      refine HAH.out.mono ?_
      rintro e w1 ⟨g3, n3, c3, rfl, hA1, hb1'⟩
      obtain ⟨W4, hW4⟩ : ∃ W4, w1.alloc (.cells #[.slice (some ⟨g3, 0, none⟩) n3 c3, .int .i64 (M.oi : Int), .int .i64 (M.oe : Int), .int .i64 (M.va : Int)] 94) = W4 := ⟨_, rfl⟩
      have hbW : Below w1.heap.size w1 W4 := by rw [<- hW4]; exact Below.alloc (Below.refl _ _) (Nat.le_refl _) _
      have hV : VP W4 w1.heap.size g3 n3 c3 (M.oi : Int) (M.oe : Int) (M.va : Int) := by rw [<- hW4]; exact heap_alloc_last w1 _
      have hA := hA1.below hbW
      have hJ := (hj.out.below hb1').below hbW
      have ck1 := HCK.out w1 (hj.out.below hb1').bel
      have ck4 := HCK.out W4 hJ.bel
      have hn0 : 0 < n3 := by have := hA.len; have := HPOS.out; omega
      obtain ⟨p0, p1, p2, p3⟩ := hV.c
      clear hA1 hb1' hbW hj HAH
      by_cases hov : (Ex.hd M.st).ov = 0
      ·rw [if_pos hov] at HTY
       go_wp2_with (first
        | (go_at_call 56; refine (rlast_any hA hn0 _ _ _).mono ?_; rintro e wl ⟨rfl, hbl2⟩; replace hJ := hJ.below hbl2; replace hV := hV.below hbl2; replace hA := hA.below hbl2; clear hbl2 p0 p1 p2 p3; obtain ⟨p0, p1, p2, p3⟩ := hV.c; have ckl := HCK.out _ hJ.bel)
        | (at_builtin; refine wpList_j2 ((hJ).below (Below.alloc (Below.refl _ _) (Nat.le_refl _) _)) rfl (.tmp 82) (.tmp 86) 30 rfl ii _ Tryz.underlying30 HII.out HY0.out HY1.out HY2.out rfl rfl _ (Ex.hd M.st).lv rfl (row_one _ _ rfl (Ex.hd M.st).lv) (by omega) ?_; intro ga cga wga hJn; replace hJ := hJn; clear hJn; have ckga := HCK.out _ hJ.bel)
        | (at_builtin; refine wpList_j2 ((hJ.symm).below (Below.alloc (Below.refl _ _) (Nat.le_refl _) _)) rfl (.tmp 88) (.tmp 90) 30 rfl ii _ Tryz.underlying30 HII.out HY0.out HY1.out HY2.out rfl rfl _ x rfl (row_one _ _ rfl x) (by omega) ?_; intro gb cgb wgb hJn; replace hJ := hJn.symm; clear hJn; have ckgb := HCK.out _ hJ.bel))
       have HJ := hide hJ
       rw [<- HLV.out, <- HTY.out] at HJ
       clear hJ hV hA
       go_wp2
       go_roundw
       case rel => exact ⟨k + 1, by omega, by go_num, HJ⟩
       case measure => simp [intOf]; omega
      ·rw [if_neg hov] at HTY
       have hov2 : ((Ex.hd M.st).ov != 0) = true := bne_iff_ne.2 hov
       go_wp2_with (first
        | (go_at_call 56; refine (rlast_any hA hn0 _ _ _).mono ?_; rintro e wl ⟨rfl, hbl2⟩; replace hJ := hJ.below hbl2; replace hV := hV.below hbl2; replace hA := hA.below hbl2; clear hbl2 p0 p1 p2 p3; obtain ⟨p0, p1, p2, p3⟩ := hV.c; have ckl := HCK.out _ hJ.bel)
        | (at_builtin; refine wpList_j2 ((hJ).below (Below.alloc (Below.refl _ _) (Nat.le_refl _) _)) rfl (.tmp 82) (.tmp 86) 30 rfl ii _ Tryz.underlying30 HII.out HY0.out HY1.out HY2.out rfl rfl _ (Ex.hd M.st).lv rfl (row_one _ _ rfl (Ex.hd M.st).lv) (by omega) ?_; intro ga cga wga hJn; replace hJ := hJn; clear hJn; have ckga := HCK.out _ hJ.bel)
        | (at_builtin; refine wpList_j2 ((hJ.symm).below (Below.alloc (Below.refl _ _) (Nat.le_refl _) _)) rfl (.tmp 88) (.tmp 90) 30 rfl ii _ Tryz.underlying30 HII.out HY0.out HY1.out HY2.out rfl rfl _ (Ex.hd M.st).ov rfl (row_one _ _ rfl (Ex.hd M.st).ov) (by omega) ?_; intro gb cgb wgb hJn; replace hJ := hJn.symm; clear hJn; have ckgb := HCK.out _ hJ.bel))
       have HJ := hide hJ
       rw [<- HLV.out, <- HTY.out] at HJ
       clear hJ hV hA
       go_wp2
       go_roundw
       case rel => exact ⟨k + 1, by omega, by go_num, HJ⟩
       case measure => simp [intOf]; omega
  ·obtain rfl : k = n := by omega
   have hne : ¬ ((k : Int) < (k : Int)) := by omega
   obtain ⟨al, cl, e1, r1⟩ := row_of_owns hj.out.oa
   obtain ⟨at2, ct, e2, r2⟩ := row_of_owns hj.out.ob
   subst e1 e2
   have HJ := hide (show J2 3 w wr (.slice al k cl) k (Ex.LV b c) (.slice at2 k ct) k (Ex.TY b c) from by have := hj.out; unfold Ex.LV Ex.TY; rw [HL.out]; exact this)
   clear hj r1 r2
   go_wp2
   go_ret3
   exact ⟨al, cl, at2, ct, rfl, HJ.out⟩
theorem rresolve_ok (ao : Option Addr) (n cap0 : Nat) (c : List Int) (b : Int) (w : World) (h : Row .i64 w ao n cap0 c) (hn : n <= 300) (hb : b = 0 \/ b = 1) (hF : Ex.Formed c) :
  Calls Tryz.prog 33 #[.slice ao n cap0, .int .i64 b] w fun e w' => ∃ al cl at' ct, e = .returned (.tuple #[.slice al n cl, .slice at' n ct, .int .i64 0]) /\ Row .i64 w' al n cl (Ex.LV b c) /\ Row .i64 w' at' n ct (Ex.TY b c) /\ Below w.heap.size w w' := by
 refine (rresolve_own ao n cap0 c b w h hn hb hF).mono ?_
 rintro e w' ⟨al, cl, at2, ct, he, hj⟩
 obtain ⟨a1, c1, e1, r1⟩ := row_of_owns hj.oa
 obtain ⟨a2, c2, e2, r2⟩ := row_of_owns hj.ob
 cases e1
 cases e2
 exact ⟨al, cl, at2, ct, he, r1, r2, hj.bel⟩
end Go.Proofs.YtfcoebbblfcdoaaGreatDoor

/- The document's Sequences. -/
namespace Go.Proofs.YtfcoebbblfcdoaaGreatDoor
open Go.RowKit Go.Maps
set_option linter.unusedVariables false
set_option maxHeartbeats 1000000
set_option maxRecDepth 100000
structure RI8 (W : World) (b : Int) (lv mt : List Int) (rs : List (List Nat)) (i j : Nat) (v : Value) (wr : World) : Prop where
 done : ∀ j', j' < j -> Rn.fst rs j' < i
 next : j < rs.length -> i <= Rn.fst rs j
 so : ∃ hs, SO W.heap.size wr v hs (Rn.sqs b lv mt rs j)
 bel : Below W.heap.size W wr
theorem refsequences_own (ao : Option Addr) (n cap0 : Nat) (c : List Int) (b : Int) (w : World) (h : Row .i64 w ao n cap0 c) (hn : n <= 300) (hb : b = 0 \/ b = 1) (hF : Ex.Formed c) :
  Calls Tryz.prog 34 #[.slice ao n cap0, .int .i64 b] w fun e w' => ∃ sa cs, e = .returned (.tuple #[.slice sa (Rn.sqs b (Ex.LV b c) (Iso.MT c) (Rn.RS (Ex.LV b c)) (Rn.RS (Ex.LV b c)).length).length cs, .int .i64 0]) /\ (∃ hs, SO w.heap.size w' (.slice sa (Rn.sqs b (Ex.LV b c) (Iso.MT c) (Rn.RS (Ex.LV b c)) (Rn.RS (Ex.LV b c)).length).length cs) hs (Rn.sqs b (Ex.LV b c) (Iso.MT c) (Rn.RS (Ex.LV b c)) (Rn.RS (Ex.LV b c)).length)) /\ Below w.heap.size w w' := by
 have hlen := h.len
 have HL := hide hlen
 have H := hide h
 have hR := Rn.runs_of (Ex.LV b c)
 have HRE := hide (rresolve_ok ao n cap0 c b w h hn hb hF)
 have HSE := hide (fun (W : World) (al : Option Addr) (cl : Nat) (hw : KO w W) (h' : Row .i64 W al n cl (Ex.LV b c)) k (hk : k < (Rn.RS (Ex.LV b c)).length) => refsequence_any (h.below hw) h' hn hb hF hk)
 have HOW := hide (fun (W : World) (hw : KO w W) j (hj : j < (Rn.RS (Ex.LV b c)).length) => (show Calls Tryz.prog 58 #[.slice ao n cap0, .int .i64 (Rn.fst (Rn.RS (Ex.LV b c)) j : Int)] W fun e w' => e = .returned (.bool (!(Rn.bg (Iso.MT c) (Rn.RS (Ex.LV b c)) j))) /\ W = w' from by
  have hf := (Rn.fst_kept hR hj).1
  rw [Ex.LV_len] at hf
  refine refowned_any (h.below hw) hn (by omega) _ ?_
  rw [<- Rn.bg_iff hf]
  cases Rn.bg (Iso.MT c) (Rn.RS (Ex.LV b c)) j <;> simp))
 have HR := hide hR
 have HLVL := hide (Ex.LV_len b c)
 have hNl : (Rn.RS (Ex.LV b c)).length <= n := by
  have h2 := Rn.R_len (Ex.LV b c) (Ex.LV b c).length
  rw [Ex.LV_len] at h2
  unfold Rn.RS
  rw [Ex.LV_len]
  omega
 have hbs := build_seq1
 obtain ⟨ii, hii, hy0, hy1, hy2⟩ := info_parts seqInfo3
 have HII := hide hii
 have HY0 := hide hy0
 have HY1 := hide hy1
 have HY2 := hide hy2
 generalize Rn.RS (Ex.LV b c) = rs at *
 generalize Ex.LV b c = lv at *
 generalize Iso.MT c = mt at *
 clear h hF hR hii hy0 hy1 hy2 hb
 go_enter Tryz.func34, Tryz.ntmps34
 go_wp2_with fail
 refine HRE.out.mono ?_
 rintro e W ⟨al, cl, at', ct, rfl, rl, _, hb1⟩
 have HRL := hide rl
 have HB := hide hb1
 have HKW : Hid (KO w W) := hb1
 clear rl hb1 HRE
 go_wp2
 go_loopw [9, 10] (fun s9 s10 wr => ∃ i j : Nat, i <= n /\ j <= rs.length /\ s10 = .int .i64 (i : Int) /\ Hid (RI8 W b lv mt rs i j s9 wr)) (fun _ s10 _ => n - (intOf s10).toNat)
 case atStart => exact ⟨0, 0, Nat.zero_le _, Nat.zero_le _, rfl, hide ⟨fun j' h => by omega, fun _ => Nat.zero_le _, ⟨[], SO.begin _ _⟩, Below.refl _ _⟩⟩
 case round =>
  obtain ⟨i, j, hi, hj, rfl, hq⟩ := hrel
  have HQ := hide hq.out
  obtain ⟨hs, hso⟩ := hq.out.so
  have hbw := hq.out.bel
  clear hq
  obtain ⟨av, cv, rfl, hav⟩ := owns_form hso.oa
  have hsl := Rn.sqs_len b lv mt rs j
  by_cases hin : i < n
  ·have hin2 : (i : Int) < (n : Int) := by omega
   have hrow := HRL.out.below hbw
   by_cases hyes : j < rs.length /\ Rn.fst rs j = i
   ·obtain ⟨hj1, hj2⟩ := hyes
    have hfy := rfirst_yes hrow (by omega) HR.out hj1
    rw [hj2] at hfy
    have HFY := hide hfy
    have hnext : j + 1 < rs.length -> i + 1 <= Rn.fst rs (j + 1) := fun hjn => by have h1 := Rn.lst_fst HR.out (j + 1) j (by omega) hjn; have h2 := (Rn.run_le HR.out hj1 (HR.out.pos j hj1)).2; have e : (Rn.rn rs j).getD 0 0 = Rn.fst rs j := rfl; omega
    have hdone : ∀ j', j' < j + 1 -> Rn.fst rs j' < i + 1 := fun j' h' => by
     by_cases e : j' = j
     ·subst e; omega
     ·have := HQ.out.done j' (by omega); omega
    have HND := hide (And.intro hnext hdone)
    have HOWJ := hide (fun q => by
     have := HOW.out (wr.drewN q) (KO.on (KO.on HKW.out hbw) (below_drewN wr q)) j hj1
     rw [hj2] at this
     exact this)
    have HSEJ := hide (fun q => by
     have := HSE.out (wr.drewN q) al cl (KO.on (KO.on HKW.out hbw) (below_drewN wr q)) (hrow.below (below_drewN wr q)) j hj1
     rw [hj2] at this
     exact this)
    have hszX : W.heap.size <= wr.heap.size := hbw.size
    have HBW := hide (show ∀ q, Below W.heap.size W (wr.drewN q) from fun q => KO.on hbw (below_drewN wr q))
    have HSO := hide (show ∀ q, SO W.heap.size (wr.drewN q) (.slice av (Rn.sqs b lv mt rs j).length cv) hs (Rn.sqs b lv mt rs j) from fun q => hso.below (below_drewN wr q))
    have HOA := hide hso.oa
    cases hbg : Rn.bg mt rs j with
    | false =>
     rw [hbg] at HOWJ
     have HE := hide (show ∀ q, RI8 W b lv mt rs (i + 1) (j + 1) (.slice av (Rn.sqs b lv mt rs j).length cv) (wr.drewN q) from fun q => ⟨hdone, hnext, ⟨hs, by rw [Rn.sqs_no hbg]; exact HSO.out q⟩, HBW.out q⟩)
     clear hfy hnext hdone hso hbw hrow hbg HSEJ HSO HBW HOA HQ
     generalize (Rn.sqs b lv mt rs j).length = L at *
     go_wp2_with (first
      | (go_at_call 57; refine HFY.out.mono ?_; rintro e w1 ⟨rfl, qa, rfl⟩)
      | (go_at_call 58; refine (HOWJ.out _).mono ?_; rintro e w1 ⟨rfl, rfl⟩))
     exact ⟨⟨i + 1, j + 1, by omega, by omega, by go_num, hide (HE.out qa)⟩, by simp [intOf]; omega⟩
    | true =>
     rw [hbg] at HOWJ
     have HSY := hide (Rn.sqs_yes (b := b) (lv := lv) hbg)
     obtain ⟨s, hse⟩ : ∃ s, Rn.sq b lv mt rs j = s := ⟨_, rfl⟩
     rw [hse] at HSY HSEJ
     obtain ⟨ps, x, y, z⟩ := s
     simp only at HSEJ
     generalize hLL : (Rn.sqs b lv mt rs j).length = L at *
     have HLE := hide hLL
     clear hfy hnext hdone hso hbw hrow hbg HQ hLL hse
     go_wp2_with (first
      | (go_at_call 57; refine HFY.out.mono ?_; rintro e w1 ⟨rfl, qa, rfl⟩)
      | (go_at_call 58; refine (HOWJ.out _).mono ?_; rintro e w1 ⟨rfl, rfl⟩)
      | (go_at_call 59; refine (HSEJ.out _).mono ?_; rintro e w6 ⟨g6, c6, rfl, how6, hb6⟩; have hs6 := (HSO.out qa).below hb6; have hz6 : wr.heap.size <= w6.heap.size := hb6.size)
      | (at_builtin; refine wpList_append_own_at _ rfl (.tmp 36) (.tmp 42) 72 rfl W.heap.size 77 ii _ 4 48 Tryz.underlying72 HII.out HY0.out HY1.out HY2.out rfl (by decide) (.slice av L cv) L (scs hs (Rn.sqs b lv mt rs j)) rfl (show (w6.alloc (.cells (sc (g6, c6) ⟨ps, x, y, z⟩).toArray 77)).ownsRow W.heap.size 77 4 (.slice av L cv) L (scs hs (Rn.sqs b lv mt rs j)) from (by have := hs6.oa; rw [HLE.out] at this; exact this.alloc _)) ⟨w6.heap.size, 0, none⟩ 1 1 (sc (g6, c6) ⟨ps, x, y, z⟩) rfl rfl (cells_new w6 (sc (g6, c6) ⟨ps, x, y, z⟩) 77) (sc_one _ _) (by unfold maxLen; omega) (by omega) (by simp; omega) ?_; intro v7 w7 ho7 hg7 _ _; obtain ⟨g7, c7, rfl, _, _⟩ := owns_pos ho7 (by omega)))
     refine ⟨⟨i + 1, j + 1, by omega, by omega, by go_num, hide ⟨HND.out.2, HND.out.1, ⟨hs ++ [(g6, c6)], ?_⟩, ?_⟩⟩, by simp [intOf]; omega⟩
     ·rw [HSY.out]
      refine (hs6.below ((Below.refl _ _).alloc (Nat.le_refl _) _)).push (s := ⟨ps, x, y, z⟩) (owns_below (owns_mono how6 hszX) ((Below.refl _ _).alloc (Nat.le_refl _) _)) ?_ hg7
      rw [HLE.out]
      exact ho7
     ·exact grown_alloc ((HBW.out qa).trans (hb6.mono hszX)) (by omega) hg7 (fun q hq => (HOA.out.lt q hq).1)
   ·have HFN : Hid (Calls Tryz.prog 57 #[.slice al n cl, .int .i64 (i : Int)] wr fun e w' => e = .returned (.bool false) /\ ∃ q, w' = wr.drewN q) := by
     by_cases hneg : lv.getD i 0 < 0
     ·exact rfirst_neg hrow hin hneg
     ·obtain ⟨j', m, h1, h2, h3⟩ := HR.out.cover i (by rw [HLVL.out, HL.out]; exact hin) (show decide (0 <= lv.getD i 0) = true from decide_eq_true (by omega))
      by_cases hm0 : m = 0
      ·exfalso
       subst hm0
       have e : Rn.fst rs j' = i := h3
       by_cases c1 : j' < j
       ·have := HQ.out.done j' c1; omega
       ·by_cases c2 : j' = j
        ·subst c2; exact hyes ⟨h1, e⟩
        ·have h4 := Rn.lst_fst HR.out j' j (by omega) h1
         have h5 := (Rn.run_le HR.out (show j < rs.length by omega) (HR.out.pos j (by omega))).2
         have e' : (Rn.rn rs j).getD 0 0 = Rn.fst rs j := rfl
         have h6 := HQ.out.next (by omega)
         omega
      ·obtain ⟨m', rfl⟩ : ∃ m', m = m' + 1 := ⟨m - 1, by omega⟩
       rw [<- h3]
       exact rfirst_in hrow (by omega) HR.out h1 h2
    have HE := hide (show ∀ q, RI8 W b lv mt rs (i + 1) j (.slice av (Rn.sqs b lv mt rs j).length cv) (wr.drewN q) from fun q => ⟨fun j' h => by have := HQ.out.done j' h; omega, fun h => by have h1 := HQ.out.next h; by_cases e : Rn.fst rs j = i; exact absurd ⟨h, e⟩ hyes; omega, ⟨hs, hso.below (below_drewN wr q)⟩, KO.on hbw (below_drewN wr q)⟩)
    clear hso hbw hrow hyes HQ
    generalize (Rn.sqs b lv mt rs j).length = L at *
    go_wp2_with (go_at_call 57; refine HFN.out.mono ?_; rintro e w1 ⟨rfl, qa, rfl⟩)
    exact ⟨⟨i + 1, j, by omega, by omega, by go_num, hide (HE.out qa)⟩, by simp [intOf]; omega⟩
  ·obtain rfl : i = n := by omega
   have hne : ¬ ((i : Int) < (i : Int)) := by omega
   have hje : j = rs.length := by
    by_cases e : j < rs.length
    ·have h1 := HQ.out.next e
     have h2 := (Rn.fst_kept HR.out e).1
     rw [HLVL.out, HL.out] at h2
     omega
    ·omega
   subst hje
   have HSL := hide (show ∃ hs, SO w.heap.size wr (.slice av (Rn.sqs b lv mt rs rs.length).length cv) hs (Rn.sqs b lv mt rs rs.length) from ⟨hs, hso.mono HKW.out.size⟩)
   have HBE := hide (KO.on HKW.out hbw)
   clear hso hbw HQ hav
   generalize hLL : (Rn.sqs b lv mt rs rs.length).length = L at *
   have HLE := hide hLL
   clear hLL
   go_wp2
   go_ret2
   have hq := HLE.out
   subst hq
   exact ⟨av, cv, rfl, HSL.out, HBE.out⟩
end Go.Proofs.YtfcoebbblfcdoaaGreatDoor
