import Derived.Test.YtfadjgaledddjaaGreatDoorZm
import Derived.Test.YtfadjgaledddjaaGreatDoorZa
import Derived.Test.YtfadjgaledddjaaGreatDoorZg
import Derived.Test.YtfadjgaledddjaaGreatDoorZh
import Derived.Test.YtfadjgaledddjaaGreatDoorZj
import Derived.Test.YtfadjgaledddjaaGreatDoorZk
import Derived.Deep.RegionHeld
import Derived.Test.YtfadjgaledddjaaGreatDoorZe
import Derived.Test.YtfadjgaledddjaaGreatDoorZc
/- Classes; what stands at some places of a list. -/
namespace Go.Proofs.YtfadjgaledddjaaGreatDoor
open Go.RowKit
set_option linter.unusedVariables false
set_option maxHeartbeats 1000000
set_option maxRecDepth 100000
theorem infoRune12 : (Tryz.prog.info? 21).map (fun i => (i.zero, i.size, i.bytes)) = some (some (.int .i32 0), 1, 4) := by kernel_rfl
theorem wf_at {k : IntKind} {l : List Int} (h : ∀ x ∈ l, (Lit.int k x).wf = true) {i : Nat} (hi : i < l.length) : (Lit.int k (l.getD i 0)).wf = true := by
  rw [show l.getD i 0 = l[i] from by simp [List.getD, hi]]
  exact h _ (List.getElem_mem _)
theorem FL_cl (l : List Int) : FL (fun i => Ucd.cls (l.getD i 0)) l.length l.length = Rn.cl l := by
  rw [FL_end]
  refine List.ext_getElem (by simp [Rn.cl]) fun i h1 h2 => ?_
  simp only [List.length_map, List.length_range] at h1
  simp [Rn.cl, List.getD, h1]
theorem FL_pk (t : List Int) (ps : List Nat) : FL (fun i => t.getD (ps.getD i 0) 0) ps.length ps.length = Rn.pk t ps := by
  rw [FL_end]
  refine List.ext_getElem (by simp [Rn.pk]) fun i h1 h2 => ?_
  simp only [List.length_map, List.length_range] at h1
  simp [Rn.pk, List.getD, h1]
theorem classes_any (ao : Option Addr) (n cap : Nat) (l : List Int) (w : World) (h : Row .i32 w ao n cap l) (hf : ∀ x ∈ l, (Lit.int .i32 x).wf = true) (hn : n * 8 ≤ 140737488351232) :
    Calls Tryz.prog 14 #[.slice ao n cap] w fun e w' => e = .returned (.slice (some ⟨w.heap.size, 0, none⟩) n n) ∧ NR .i64 3 w n (Rn.cl l) w' := by
  obtain ⟨ii, hii, hy0, hy1, hy2⟩ := info_parts infoInt
  have HII : Hid (Tryz.prog.info? 3 = some ii) := hii
  have HY0 := hide hy0
  have HY1 := hide hy1
  have HY2 := hide hy2
  have H := hide h
  have HL := hide h.len
  have HF := hide hf
  have HE := hide (FL_cl l)
  have hn2 : n ≤ 17592186044416 := by omega
  clear h hf hii hy0 hy1 hy2
  go_enter Tryz.func14, Tryz.ntmps14
  go_wp2_with (at_make; refine wpList_make_full _ rfl _ _ 24 rfl w.heap.size 3 ii (.int .i64 0) 1 Tryz.underlying24 HII.out HY0.out HY1.out _ _ _ _ n rfl rfl rfl rfl ?b2 ?b3 (Nat.le_refl _) ?_)
  case b2 => rw [HY2.out]; omega
  case b3 => unfold maxLen; omega
  intro w1 hown hgrow
  have hbel := (Below.refl w.heap.size w).grown hgrow (Nat.le_refl _) (fun _ h => by cases h)
  have HO : Hid (NR .i64 3 w n (FL (fun i => Ucd.cls (l.getD i 0)) n 0) w1) := NR.made (by simpa using hown) hbel _
  clear hown hgrow hbel
  go_wp2
  go_loopw [4, 5, 11] (fun s4 s5 s11 wr => ∃ k : Nat, k ≤ n ∧ s11 = .int .i64 (k : Int) ∧ Hid (NR .i64 3 w n (FL (fun i => Ucd.cls (l.getD i 0)) n k) wr)) (fun _ _ s11 _ => n - (intOf s11).toNat)
  case atStart => exact ⟨0, Nat.zero_le _, rfl, HO⟩
  case round =>
    obtain ⟨k, hk, rfl, hm⟩ := hrel
    by_cases hlt : k < n
    · have hkl : k < l.length := by rw [HL.out]; exact hlt
      obtain ⟨b, off, rfl, hbl, hc⟩ := H.out.cells (by omega)
      have ck : wr.cell? ⟨b, off + k, none⟩ = some (.int .i32 (l.getD k 0)) := (hm.out.bel.cell (by exact hbl)).trans (hc k hkl)
      have HC := hide (class_any (l.getD k 0) wr (wf_at HF.out hkl))
      have HS := hide (FL_set (fun i => Ucd.cls (l.getD i 0)) n k)
      have hin : (k : Int) < (n : Int) := by omega
      clear hc
      generalize hF : FL (fun i => Ucd.cls (l.getD i 0)) n k = F at *
      generalize hx : l.getD k 0 = x at *
      clear hF hx
      go_wp2_with fail
      refine HC.out.mono ?_
      rintro e w2 ⟨rfl, hb2⟩
      have hm2 := hm.out.keep hb2
      have co := hm2.cell hlt
      have hfz := hm2.fz k
      have HM2 := hide (hm2.set k (Ucd.cls x))
      rw [HS.out] at HM2
      generalize Ucd.cls x = y at *
      clear hm2 hb2 HC
      go_wp2
      go_roundw
      case rel => exact ⟨k + 1, by omega, by go_num, HM2⟩
      case measure => simp [intOf]; omega
    · obtain rfl : k = n := by omega
      have hne : ¬ ((k : Int) < (k : Int)) := by omega
      have HM := hide (show NR .i64 3 w k (Rn.cl l) wr from by
        have := hm.out
        rw [← HL.out, HE.out, HL.out] at this
        exact this)
      clear hm
      go_wp2
      go_ret
      exact ⟨rfl, HM.out⟩
theorem zs_len (ps : List Nat) : (Rn.zs ps).length = ps.length := by simp [Rn.zs]
theorem zs_at (ps : List Nat) {i : Nat} (hi : i < ps.length) : (Rn.zs ps).getD i 0 = (ps.getD i 0 : Int) := by simp [Rn.zs, List.getD, hi]
theorem pickr_any (ao ap : Option Addr) (n cap np cp : Nat) (l : List Int) (ps : List Nat) (w : World) (h : Row .i32 w ao n cap l) (hp : Row .i64 w ap np cp (Rn.zs ps)) (hlt : ∀ i ∈ ps, i < n) (hn : np ≤ 100000) :
    Calls Tryz.prog 31 #[.slice ao n cap, .slice ap np cp] w fun e w' => e = .returned (.slice (some ⟨w.heap.size, 0, none⟩) np np) ∧ NR .i32 21 w np (Rn.pk l ps) w' := by
  obtain ⟨ii, hii, hy0, hy1, hy2⟩ := info_parts infoRune12
  have HII : Hid (Tryz.prog.info? 21 = some ii) := hii
  have HY0 := hide hy0
  have HY1 := hide hy1
  have HY2 := hide hy2
  have hnp : ps.length = np := by have := hp.len; rw [zs_len] at this; exact this
  have H := hide h
  have HP := hide hp
  have HL := hide h.len
  have HNP := hide hnp
  have HLT := hide hlt
  have HE := hide (FL_pk l ps)
  clear h hp hlt hnp hii hy0 hy1 hy2
  go_enter Tryz.func31, Tryz.ntmps31
  go_wp2_with (at_make; refine wpList_make_full _ rfl _ _ 22 rfl w.heap.size 21 ii (.int .i32 0) 1 Tryz.underlying22 HII.out HY0.out HY1.out _ _ _ _ np rfl rfl rfl rfl ?b2 ?b3 (Nat.le_refl _) ?_)
  case b2 => rw [HY2.out]; omega
  case b3 => unfold maxLen; omega
  intro w1 hown hgrow
  have hbel := (Below.refl w.heap.size w).grown hgrow (Nat.le_refl _) (fun _ h => by cases h)
  have HO : Hid (NR .i32 21 w np (FL (fun i => l.getD (ps.getD i 0) 0) np 0) w1) := NR.made (by simpa using hown) hbel _
  clear hown hgrow hbel
  go_wp2
  go_loopw [6, 7, 13] (fun s6 s7 s13 wr => ∃ k : Nat, k ≤ np ∧ s13 = .int .i64 (k : Int) ∧ Hid (NR .i32 21 w np (FL (fun i => l.getD (ps.getD i 0) 0) np k) wr)) (fun _ _ s13 _ => np - (intOf s13).toNat)
  case atStart => exact ⟨0, Nat.zero_le _, rfl, HO⟩
  case round =>
    obtain ⟨k, hk, rfl, hm⟩ := hrel
    by_cases hlt : k < np
    · have hkl : k < ps.length := by rw [HNP.out]; exact hlt
      have hpl : ps.getD k 0 < n := HLT.out _ (Rn.getD_mem hkl)
      obtain ⟨b, off, rfl, hbl, hc⟩ := H.out.cells (by omega)
      obtain ⟨bp, op, rfl, hbp, hcp⟩ := HP.out.cells (by omega)
      have ck : wr.cell? ⟨bp, op + k, none⟩ = some (.int .i64 (ps.getD k 0 : Int)) := by
        have := (hm.out.bel.cell (by exact hbp)).trans (hcp k (by rw [zs_len]; exact hkl))
        rw [zs_at ps hkl] at this
        exact this
      have cl : wr.cell? ⟨b, off + ps.getD k 0, none⟩ = some (.int .i32 (l.getD (ps.getD k 0) 0)) := (hm.out.bel.cell (by exact hbl)).trans (hc _ (by rw [HL.out]; exact hpl))
      have HS := hide (FL_set (fun i => l.getD (ps.getD i 0) 0) np k)
      have hin : (k : Int) < (np : Int) := by omega
      have hin2 : ((ps.getD k 0 : Nat) : Int) < (n : Int) := by omega
      have co := hm.out.cell hlt
      have hfz := hm.out.fz k
      have HM2 := hide (hm.out.set k (l.getD (ps.getD k 0) 0))
      rw [HS.out] at HM2
      clear hc hcp hm HS
      generalize l.getD (ps.getD k 0) 0 = y at *
      generalize ps.getD k 0 = j at *
      generalize (FL (fun i => l.getD (ps.getD i 0) 0) np k).getD k 0 = y0 at *
      go_wp2
      go_roundw
      case rel => exact ⟨k + 1, by omega, by go_num, HM2⟩
      case measure => simp [intOf]; omega
    · obtain rfl : k = np := by omega
      have hne : ¬ ((k : Int) < (k : Int)) := by omega
      have HM := hide (show NR .i32 21 w k (Rn.pk l ps) wr from by
        have := hm.out
        rw [← HNP.out, HE.out, HNP.out] at this
        exact this)
      clear hm
      go_wp2
      go_ret
      exact ⟨rfl, HM.out⟩
theorem picki_any (ao ap : Option Addr) (n cap np cp : Nat) (l : List Int) (ps : List Nat) (w : World) (h : Row .i64 w ao n cap l) (hp : Row .i64 w ap np cp (Rn.zs ps)) (hlt : ∀ i ∈ ps, i < n) (hn : np ≤ 100000) :
    Calls Tryz.prog 32 #[.slice ao n cap, .slice ap np cp] w fun e w' => e = .returned (.slice (some ⟨w.heap.size, 0, none⟩) np np) ∧ NR .i64 3 w np (Rn.pk l ps) w' := by
  obtain ⟨ii, hii, hy0, hy1, hy2⟩ := info_parts infoInt
  have HII : Hid (Tryz.prog.info? 3 = some ii) := hii
  have HY0 := hide hy0
  have HY1 := hide hy1
  have HY2 := hide hy2
  have hnp : ps.length = np := by have := hp.len; rw [zs_len] at this; exact this
  have H := hide h
  have HP := hide hp
  have HL := hide h.len
  have HNP := hide hnp
  have HLT := hide hlt
  have HE := hide (FL_pk l ps)
  clear h hp hlt hnp hii hy0 hy1 hy2
  go_enter Tryz.func32, Tryz.ntmps32
  go_wp2_with (at_make; refine wpList_make_full _ rfl _ _ 24 rfl w.heap.size 3 ii (.int .i64 0) 1 Tryz.underlying24 HII.out HY0.out HY1.out _ _ _ _ np rfl rfl rfl rfl ?b2 ?b3 (Nat.le_refl _) ?_)
  case b2 => rw [HY2.out]; omega
  case b3 => unfold maxLen; omega
  intro w1 hown hgrow
  have hbel := (Below.refl w.heap.size w).grown hgrow (Nat.le_refl _) (fun _ h => by cases h)
  have HO : Hid (NR .i64 3 w np (FL (fun i => l.getD (ps.getD i 0) 0) np 0) w1) := NR.made (by simpa using hown) hbel _
  clear hown hgrow hbel
  go_wp2
  go_loopw [6, 7, 13] (fun s6 s7 s13 wr => ∃ k : Nat, k ≤ np ∧ s13 = .int .i64 (k : Int) ∧ Hid (NR .i64 3 w np (FL (fun i => l.getD (ps.getD i 0) 0) np k) wr)) (fun _ _ s13 _ => np - (intOf s13).toNat)
  case atStart => exact ⟨0, Nat.zero_le _, rfl, HO⟩
  case round =>
    obtain ⟨k, hk, rfl, hm⟩ := hrel
    by_cases hlt : k < np
    · have hkl : k < ps.length := by rw [HNP.out]; exact hlt
      have hpl : ps.getD k 0 < n := HLT.out _ (Rn.getD_mem hkl)
      obtain ⟨b, off, rfl, hbl, hc⟩ := H.out.cells (by omega)
      obtain ⟨bp, op, rfl, hbp, hcp⟩ := HP.out.cells (by omega)
      have ck : wr.cell? ⟨bp, op + k, none⟩ = some (.int .i64 (ps.getD k 0 : Int)) := by
        have := (hm.out.bel.cell (by exact hbp)).trans (hcp k (by rw [zs_len]; exact hkl))
        rw [zs_at ps hkl] at this
        exact this
      have cl : wr.cell? ⟨b, off + ps.getD k 0, none⟩ = some (.int .i64 (l.getD (ps.getD k 0) 0)) := (hm.out.bel.cell (by exact hbl)).trans (hc _ (by rw [HL.out]; exact hpl))
      have HS := hide (FL_set (fun i => l.getD (ps.getD i 0) 0) np k)
      have hin : (k : Int) < (np : Int) := by omega
      have hin2 : ((ps.getD k 0 : Nat) : Int) < (n : Int) := by omega
      have co := hm.out.cell hlt
      have hfz := hm.out.fz k
      have HM2 := hide (hm.out.set k (l.getD (ps.getD k 0) 0))
      rw [HS.out] at HM2
      clear hc hcp hm HS
      generalize l.getD (ps.getD k 0) 0 = y at *
      generalize ps.getD k 0 = j at *
      generalize (FL (fun i => l.getD (ps.getD i 0) 0) np k).getD k 0 = y0 at *
      go_wp2
      go_roundw
      case rel => exact ⟨k + 1, by omega, by go_num, HM2⟩
      case measure => simp [intOf]; omega
    · obtain rfl : k = np := by omega
      have hne : ¬ ((k : Int) < (k : Int)) := by omega
      have HM := hide (show NR .i64 3 w k (Rn.pk l ps) wr from by
        have := hm.out
        rw [← HNP.out, HE.out, HNP.out] at this
        exact this)
      clear hm
      go_wp2
      go_ret
      exact ⟨rfl, HM.out⟩
end Go.Proofs.YtfadjgaledddjaaGreatDoor

/- The rules as a sequence applies them, and all of them. -/
namespace Go.Proofs.YtfadjgaledddjaaGreatDoor
open Go.RowKit
set_option linter.unusedVariables false
set_option maxHeartbeats 1000000
set_option maxRecDepth 100000
/-- A variable of the type sequence, and what its lists hold. -/
structure SV (w : World) (p : Nat) (ap : Option Addr) (np cp : Nat) (lv so eo : Int) (an : Option Addr) (n cn : Nat) (at' : Option Addr) (ct : Nat) (tx ty : List Int) : Prop where
  hp : w.heap[p]? = some (.cells #[.slice ap np cp, .int .i64 lv, .int .i64 so, .int .i64 eo, .slice an n cn, .slice at' n ct] 68 (0, 0))
  rn : Row .i32 w an n cn tx
  rt : Row .i64 w at' n ct ty
section
variable {w w' : World} {p : Nat} {ap : Option Addr} {np cp : Nat} {lv so eo : Int} {an : Option Addr} {n cn : Nat} {at' : Option Addr} {ct : Nat} {tx ty : List Int}
theorem SV.keep (h : SV w p ap np cp lv so eo an n cn at' ct tx ty) (hk : KO w w') : SV w' p ap np cp lv so eo an n cn at' ct tx ty :=
  ⟨(Below.block hk p (Array.getElem?_eq_some_iff.1 h.hp).1).trans h.hp, h.rn.below hk, h.rt.below hk⟩
theorem SV.c (h : SV w p ap np cp lv so eo an n cn at' ct tx ty) : w.cell? ⟨p, 0, none⟩ = some (.slice ap np cp) ∧ w.cell? ⟨p, 1, none⟩ = some (.int .i64 lv) ∧ w.cell? ⟨p, 2, none⟩ = some (.int .i64 so) ∧ w.cell? ⟨p, 3, none⟩ = some (.int .i64 eo) ∧ w.cell? ⟨p, 4, none⟩ = some (.slice an n cn) ∧ w.cell? ⟨p, 5, none⟩ = some (.slice at' n ct) := by
  refine ⟨?_, ?_, ?_, ?_, ?_, ?_⟩ <;> simp [World.cell?, h.hp]
/-- A slice that a rule makes. -/
def RW (w : World) (n : Nat) (L : List Int) (e : Ending) (w' : World) : Prop := ∃ a1 c1, e = .returned (.tuple #[.slice a1 n c1, .int .i64 0]) ∧ Row .i64 w' a1 n c1 L ∧ KO w w'
theorem sweak_any (h : SV w p ap np cp lv so eo an n cn at' ct tx ty) (a0 : Option Addr) (m c0 : Nat) (t : List Int) (h0 : Row .i64 w a0 m c0 t) (hn : m ≤ 100000) (hs : We.Side so) (ho : We.Ok t) :
    Calls Tryz.prog 91 #[.pointer (some ⟨p, 0, none⟩), .slice a0 m c0] w (RW w m (Rn.T9 t so)) := by
  obtain ⟨_, _, q2, _, _, _⟩ := h.c
  have HR := hide (wresolve_ok a0 m c0 so t w h0 (by omega) hs ho)
  clear h h0 hs ho
  go_enter Tryz.func91, Tryz.ntmps91
  go_wp2_with fail
  refine HR.out.mono ?_
  rintro e w1 ⟨g, rfl, hN⟩
  have HN := hide (show Row .i64 w1 (some ⟨g, 0, none⟩) m m (Rn.T9 t so) ∧ KO w w1 from ⟨hN.row, hN.bel⟩)
  clear hN
  go_wp2
  go_ret2
  exact ⟨_, _, rfl, HN.out.1, HN.out.2⟩
theorem sbrackets_any (h : SV w p ap np cp lv so eo an n cn at' ct tx ty) (a0 : Option Addr) (c0 : Nat) (t : List Int) (h0 : Row .i64 w a0 n c0 t) (hn : n ≤ 100000) (hf : ∀ x ∈ tx, (Lit.int .i32 x).wf = true) (hm : Marks w) (L : List Int) (hA : Br.RA tx ty t lv so = (0, L)) (hL : L.length = n) :
    Calls Tryz.prog 92 #[.pointer (some ⟨p, 0, none⟩), .slice a0 n c0] w (RW w n L) := by
  obtain ⟨_, q1, q2, _, q4, q5⟩ := h.c
  have HR := hide (fun W (hk : KO w W) => resolve_any an at' a0 n n n cn ct c0 tx ty t lv so W (h.rn.below hk) (h.rt.below hk) (h0.below hk) hf (hm.below hk) (by omega))
  rw [hA] at HR
  unfold R10 at HR
  simp only [hL] at HR
  have g1 : ∀ w', KO w w' → w'.cell? ⟨p, 1, none⟩ = some (.int .i64 lv) := fun w' hk => (h.keep hk).c.2.1
  have g2 : ∀ w', KO w w' → w'.cell? ⟨p, 2, none⟩ = some (.int .i64 so) := fun w' hk => (h.keep hk).c.2.2.1
  have g4 : ∀ w', KO w w' → w'.cell? ⟨p, 4, none⟩ = some (.slice an n cn) := fun w' hk => (h.keep hk).c.2.2.2.2.1
  have g5 : ∀ w', KO w w' → w'.cell? ⟨p, 5, none⟩ = some (.slice at' n ct) := fun w' hk => (h.keep hk).c.2.2.2.2.2
  have hK : KO w w := Below.refl _ _
  clear h h0 hf hm hA hL q1 q2 q4 q5
  go_enter Tryz.func92, Tryz.ntmps92
  go_wp2
  refine wp_region_noPanic ?_
  go_region_held (fun w' => KO w w') (first | exact KO.drew hK | assumption)
    (first | (go_at_call 106; refine (HR.out _ (by assumption)).mono ?_; rintro e w1 ⟨a1, c1, rfl, hr, hk1⟩; have hk2 : KO w w1 := KO.on (by assumption) hk1))
  all_goals
    refine NoPanic.normal ?_
    have HB := hide (And.intro hr hk2)
    clear hK hk1 hk2 hr g1 g2 g4 g5
    go_wp2
    go_ret2
    exact ⟨_, _, rfl, HB.out.1, HB.out.2⟩
theorem sneutral_any (h : SV w p ap np cp lv so eo an n cn at' ct tx ty) (a0 : Option Addr) (m c0 : Nat) (t : List Int) (h0 : Row .i64 w a0 m c0 t) (hf : WF t) (hn : m ≤ 100000) (L : List Int) (hA : Ne.AR t lv so eo L 0) (hL : L.length = m) :
    Calls Tryz.prog 93 #[.pointer (some ⟨p, 0, none⟩), .slice a0 m c0] w (RW w m L) := by
  obtain ⟨_, q1, q2, q3, _, _⟩ := h.c
  have HR := hide (fun W (hk : KO w W) => nresolve_any a0 m c0 lv so eo t W (h0.below hk) hf (by omega) L 0 hA)
  simp only [hL] at HR
  have g1 : ∀ w', KO w w' → w'.cell? ⟨p, 1, none⟩ = some (.int .i64 lv) := fun w' hk => (h.keep hk).c.2.1
  have g2 : ∀ w', KO w w' → w'.cell? ⟨p, 2, none⟩ = some (.int .i64 so) := fun w' hk => (h.keep hk).c.2.2.1
  have g3 : ∀ w', KO w w' → w'.cell? ⟨p, 3, none⟩ = some (.int .i64 eo) := fun w' hk => (h.keep hk).c.2.2.2.1
  have hK : KO w w := Below.refl _ _
  clear h h0 hf hA hL q1 q2 q3
  go_enter Tryz.func93, Tryz.ntmps93
  go_wp2
  refine wp_region_noPanic ?_
  go_region_held (fun w' => KO w w') (first | exact KO.drew hK | assumption)
    (first | (go_at_call 107; refine (HR.out _ (by assumption)).mono ?_; rintro e w1 ⟨a1, c1, rfl, hr, hk1⟩; have hk2 : KO w w1 := KO.on (by assumption) hk1))
  all_goals
    refine NoPanic.normal ?_
    have HB := hide (And.intro hr hk2)
    clear hK hk1 hk2 hr g1 g2 g3
    go_wp2
    go_ret2
    exact ⟨_, _, rfl, HB.out.1, HB.out.2⟩
theorem simplicit_any (h : SV w p ap np cp lv so eo an n cn at' ct tx ty) (a0 : Option Addr) (m c0 : Nat) (t : List Int) (h0 : Row .i64 w a0 m c0 t) (hf : WF t) (hn : m ≤ 100000) (hg : Ne.Lev lv) (ho : Ne.Sided t) :
    Calls Tryz.prog 94 #[.pointer (some ⟨p, 0, none⟩), .slice a0 m c0] w fun e w' => ∃ a1 c1, e = .returned (.tuple #[.slice a1 m c1, .int .i64 0]) ∧ Row .i64 w' a1 m c1 (Ne.LS t lv) ∧ KO w w' ∧ Fresh w a1 m := by
  obtain ⟨_, q1, _, _, _, _⟩ := h.c
  have HR := hide (nlevels_go a0 m c0 lv t w h0 hf (by omega) hg (Ne.LS t lv) 0 (.inr ⟨ho, rfl, rfl⟩))
  rw [show (Ne.LS t lv).length = m from by rw [Ne.LS_len, h0.len]] at HR
  clear h h0 hf hg ho
  go_enter Tryz.func94, Tryz.ntmps94
  go_wp2_with fail
  refine HR.out.mono ?_
  rintro e w1 ⟨a1, c1, rfl, hr, hk, hfr⟩
  have HN := hide (And.intro hr (And.intro hk hfr))
  clear hr hk hfr
  go_wp2
  go_ret2
  exact ⟨_, _, rfl, HN.out.1, HN.out.2.1, HN.out.2.2⟩
end
end Go.Proofs.YtfadjgaledddjaaGreatDoor

/- All rules, one behind the other. -/
namespace Go.Proofs.YtfadjgaledddjaaGreatDoor
open Go.RowKit
set_option linter.unusedVariables false
set_option maxHeartbeats 1000000
set_option maxRecDepth 100000
/-- The rules, as values. -/
def rfv (p : Nat) : Array Value := #[.func (.func 91) #[.pointer (some ⟨p, 0, none⟩)] #[], .func (.func 92) #[.pointer (some ⟨p, 0, none⟩)] #[], .func (.func 93) #[.pointer (some ⟨p, 0, none⟩)] #[], .func (.func 94) #[.pointer (some ⟨p, 0, none⟩)] #[]]
theorem rfv_one (p : Nat) : (rfv p).all (·.oneCell') = true := by simp [rfv, Value.oneCell']
theorem ruleInfo : (Tryz.prog.info? 115).map (·.size) = some 4 := by kernel_rfl
/-- A value of one cell into a block that is known whole. -/
theorem store_one {P : Program} {W : World} {g j : Nat} {cs : Array Value} {t : TypeId} {v : Value} (hv : v.oneCell' = true) (h : W.heap[g]? = some (.cells cs t (0, 0))) (hj : j < cs.size) : (store ⟨g, j, none⟩ v).run P W = .ok () (W.setCell ⟨g, j, none⟩ v) := by
  have hc : W.cell? ⟨g, j, none⟩ = some cs[j] := by simp [World.cell?, h, hj]
  have hf : W.frozen? ⟨g, j, none⟩ = false := by simp [World.frozen?, h]
  rw [run_store _ _ _ _ _ hv, hc, hf]
  rfl
theorem rules_any (p : Nat) (w : World) : Calls Tryz.prog 66 #[.pointer (some ⟨p, 0, none⟩)] w fun e w' => e = .returned (.agg (rfv p)) ∧ KO w w' := by
  have h0 : (w.alloc (.cells #[.nilFunc, .nilFunc, .nilFunc, .nilFunc] 115)).heap[w.heap.size]? = some (.cells #[.nilFunc, .nilFunc, .nilFunc, .nilFunc] 115 (0, 0)) := heap_alloc_last w _
  have k0 : Below w.heap.size w (w.alloc (.cells #[.nilFunc, .nilFunc, .nilFunc, .nilFunc] 115)) := KO.alloc (KO.refl _) _
  have s1 := store_one (P := Tryz.prog) (j := 0) (v := .func (.func 91) #[.pointer (some ⟨p, 0, none⟩)] #[]) rfl h0 (by decide)
  have h1 := sset_heap (j := 0) h0 (.func (.func 91) #[.pointer (some ⟨p, 0, none⟩)] #[])
  have k1 := k0.setCell (p := ⟨w.heap.size, 0, none⟩) (Nat.le_refl _) (.func (.func 91) #[.pointer (some ⟨p, 0, none⟩)] #[])
  generalize (w.alloc (.cells #[.nilFunc, .nilFunc, .nilFunc, .nilFunc] 115)).setCell _ _ = W1 at s1 h1 k1
  have s2 := store_one (P := Tryz.prog) (j := 1) (v := .func (.func 92) #[.pointer (some ⟨p, 0, none⟩)] #[]) rfl h1 (by simp)
  have h2 := sset_heap (j := 1) h1 (.func (.func 92) #[.pointer (some ⟨p, 0, none⟩)] #[])
  have k2 := k1.setCell (p := ⟨w.heap.size, 1, none⟩) (Nat.le_refl _) (.func (.func 92) #[.pointer (some ⟨p, 0, none⟩)] #[])
  generalize W1.setCell _ _ = W2 at s2 h2 k2
  have s3 := store_one (P := Tryz.prog) (j := 2) (v := .func (.func 93) #[.pointer (some ⟨p, 0, none⟩)] #[]) rfl h2 (by simp)
  have h3 := sset_heap (j := 2) h2 (.func (.func 93) #[.pointer (some ⟨p, 0, none⟩)] #[])
  have k3 := k2.setCell (p := ⟨w.heap.size, 2, none⟩) (Nat.le_refl _) (.func (.func 93) #[.pointer (some ⟨p, 0, none⟩)] #[])
  generalize W2.setCell _ _ = W3 at s3 h3 k3
  have s4 := store_one (P := Tryz.prog) (j := 3) (v := .func (.func 94) #[.pointer (some ⟨p, 0, none⟩)] #[]) rfl h3 (by simp)
  have h4 := sset_heap (j := 3) h3 (.func (.func 94) #[.pointer (some ⟨p, 0, none⟩)] #[])
  have k4 := k3.setCell (p := ⟨w.heap.size, 3, none⟩) (Nat.le_refl _) (.func (.func 94) #[.pointer (some ⟨p, 0, none⟩)] #[])
  generalize W3.setCell _ _ = W4 at s4 h4 k4
  have HE := hide (run_loadVar_row (P := Tryz.prog) W4 w.heap.size 115 115 (rfv p) (0, 0) _ (show W4.heap[w.heap.size]? = some (Obj.cells (rfv p) 115 (0, 0)) from h4) Tryz.underlying115 rfl ruleInfo)
  have HK := hide k4
  clear h0 k0 h1 k1 h2 k2 h3 k3 h4 k4
  go_enter Tryz.func66, Tryz.ntmps66
  go_wp2
  exact bodyPost_ret (sresults1 Tryz.results66 _ _ _ w.heap.size _ rfl HE.out) rfl ⟨rfl, HK.out⟩
end Go.Proofs.YtfadjgaledddjaaGreatDoor

/- All rules of a sequence. -/
namespace Go.Proofs.YtfadjgaledddjaaGreatDoor
open Go.RowKit
set_option linter.unusedVariables false
set_option maxHeartbeats 1000000
set_option maxRecDepth 100000
theorem ruleE : (Tryz.prog.info? 114).map (·.size) = some 1 := by kernel_rfl
theorem rule0 (p : Nat) (w : World) : (Instr.index 115 (.agg (rfv p)) (.int .i64 0)).run Tryz.prog w = .ok (.func (.func 91) #[.pointer (some ⟨p, 0, none⟩)] #[]) w := by kernel_rfl
theorem rule1 (p : Nat) (w : World) : (Instr.index 115 (.agg (rfv p)) (.int .i64 1)).run Tryz.prog w = .ok (.func (.func 92) #[.pointer (some ⟨p, 0, none⟩)] #[]) w := by kernel_rfl
theorem rule2 (p : Nat) (w : World) : (Instr.index 115 (.agg (rfv p)) (.int .i64 2)).run Tryz.prog w = .ok (.func (.func 93) #[.pointer (some ⟨p, 0, none⟩)] #[]) w := by kernel_rfl
theorem rule3 (p : Nat) (w : World) : (Instr.index 115 (.agg (rfv p)) (.int .i64 3)).run Tryz.prog w = .ok (.func (.func 94) #[.pointer (some ⟨p, 0, none⟩)] #[]) w := by kernel_rfl
theorem slevels_any {w : World} {p : Nat} {ap : Option Addr} {np cp : Nat} {lv so eo : Int} {an : Option Addr} {n cn : Nat} {at' : Option Addr} {ct : Nat} {tx ty : List Int} (h : SV w p ap np cp lv so eo an n cn at' ct tx ty) (hg : Rn.G tx ty lv so eo) (hf : ∀ x ∈ tx, (Lit.int .i32 x).wf = true) (hm : Marks w) (hn : n ≤ 100000) :
    Calls Tryz.prog 33 #[.pointer (some ⟨p, 0, none⟩)] w fun e w' => ∃ a1 c1, e = .returned (.tuple #[.slice a1 n c1, .int .i64 0]) ∧ Row .i64 w' a1 n c1 (Rn.F13 tx ty lv so eo) ∧ KO w w' ∧ Fresh w a1 n := by
  have hty := h.rt.len
  have HRU := hide (fun W => rules_any p W)
  have HW := hide (fun W (hk : KO w W) => sweak_any (h.keep hk) at' n ct ty (h.rt.below hk) hn hg.so hg.ok)
  have HB := hide (fun W (hk : KO w W) a0 c0 (h0 : Row .i64 W a0 n c0 (Rn.T9 ty so)) => sbrackets_any (h.keep hk) a0 c0 _ h0 hn hf (hm.below hk) _ hg.ra (by rw [Rn.T10_len]; exact hty))
  have HN := hide (fun W (hk : KO w W) a0 c0 (h0 : Row .i64 W a0 n c0 (Rn.T10 Br.PP tx ty lv so)) => sneutral_any (h.keep hk) a0 n c0 _ h0 hg.wf10 hn _ hg.ar (by rw [Ne.RS_len, Rn.T10_len]; exact hty))
  have HI := hide (fun W (hk : KO w W) a0 c0 (h0 : Row .i64 W a0 n c0 (Ne.RS (Rn.T10 Br.PP tx ty lv so) lv so eo)) => simplicit_any (h.keep hk) a0 n c0 _ h0 hg.wf11 hn ⟨hg.lv0, by have := hg.lv1; omega⟩ (Rn.rs_sided _ _ _ _ hg.so))
  have q5 := h.c.2.2.2.2.2
  have r0 := rule0 p
  have r1 := rule1 p
  have r2 := rule2 p
  have r3 := rule3 p
  have HF13 := hide (show Rn.F13 tx ty lv so eo = Ne.LS (Ne.RS (Rn.T10 Br.PP tx ty lv so) lv so eo) lv from rfl)
  rw [HF13.out]
  generalize hL12 : Ne.LS (Ne.RS (Rn.T10 Br.PP tx ty lv so) lv so eo) lv = L12 at *
  generalize Ne.RS (Rn.T10 Br.PP tx ty lv so) lv so eo = L11 at *
  generalize Rn.T10 Br.PP tx ty lv so = L10 at *
  generalize Rn.T9 ty so = L9 at *
  clear h hg hf hm hty hL12 HF13
  go_enter Tryz.func33, Tryz.ntmps33
  go_wp2_with fail
  refine (HRU.out w).mono ?_
  rintro e w1 ⟨rfl, hk1⟩
  have HW1 := hide (HW.out w1 hk1)
  have HK1 := hide hk1
  clear hk1 HW HRU
  go_wp2
  refine wp_loop_rounds 5 ?_
  rw [rounds_succ]
  go_wp2_with fail
  refine HW1.out.mono ?_
  rintro e w2 ⟨a2, c2, rfl, hr2, hk2⟩
  have HK2 := hide (KO.on HK1.out hk2)
  have HB2 := hide (HB.out w2 HK2.out a2 c2 hr2)
  clear hr2 hk2 HW1 HB HK1
  go_wp2
  rw [rounds_succ]
  go_wp2_with fail
  refine HB2.out.mono ?_
  rintro e w3 ⟨a3, c3, rfl, hr3, hk3⟩
  have HK3 := hide (KO.on HK2.out hk3)
  have HN3 := hide (HN.out w3 HK3.out a3 c3 hr3)
  clear hr3 hk3 HB2 HN HK2
  go_wp2
  rw [rounds_succ]
  go_wp2_with fail
  refine HN3.out.mono ?_
  rintro e w4 ⟨a4, c4, rfl, hr4, hk4⟩
  have HK4 := hide (KO.on HK3.out hk4)
  have HI4 := hide (HI.out w4 HK4.out a4 c4 hr4)
  clear hr4 hk4 HN3 HI HK3
  go_wp2
  rw [rounds_succ]
  go_wp2_with fail
  refine HI4.out.mono ?_
  rintro e w5 ⟨a5, c5, rfl, hr5, hk5, hf5⟩
  have HR5 := hide (show Row .i64 w5 a5 n c5 L12 ∧ KO w w5 ∧ Fresh w a5 n from ⟨hr5, KO.on HK4.out hk5, fun h0 => by
    obtain ⟨g, e1, e2⟩ := hf5 h0
    exact ⟨g, e1, Nat.le_trans HK4.out.size e2⟩⟩)
  clear hr5 hk5 hf5 HI4 HK4
  go_wp2
  rw [rounds_succ]
  go_wp2
  go_ret2
  exact ⟨_, _, rfl, HR5.out.1, HR5.out.2.1, HR5.out.2.2⟩
end Go.Proofs.YtfadjgaledddjaaGreatDoor

/- The rows of levels and types, and the list of sequences, while levels are written. -/
namespace Go.Proofs.YtfadjgaledddjaaGreatDoor
open Go.RowKit
set_option linter.unusedVariables false
set_option maxHeartbeats 1000000
set_option maxRecDepth 100000
/-- What a call owns above a block is kept by a store below. -/
theorem owns_low {w : World} {B e k n g : Nat} {v : Value} {xs : List Value} (h : w.ownsRow B e k v n xs) (hg : g < B) (j : Nat) (x : Value) : (w.setCell ⟨g, j, none⟩ x).ownsRow B e k v n xs := by
  refine ⟨h.1, ?_⟩
  rcases h.2 with hn | ⟨g', cap, cur, rfl, hb, hh, rest⟩
  · exact .inl hn
  · refine .inr ⟨g', cap, cur, rfl, hb, ?_, rest⟩
    rw [Below.heap_setCell _ _ _ _ (show g' ≠ g by omega)]
    exact hh
theorem SO.low {w : World} {B g : Nat} {v : Value} {hs : List (Nat × Nat)} {ss : List Rn.Sq} (h : SO B w v hs ss) (hg : g < B) (j : Nat) (x : Value) : SO B (w.setCell ⟨g, j, none⟩ x) v hs ss :=
  ⟨owns_low h.oa hg j x, h.lh, fun i hi => owns_low (h.rows i hi) hg j x⟩
/-- A row in another block. -/
theorem row_apart {k : IntKind} {w : World} {b off n cap g : Nat} {zs : List Int} (h : Row k w (some ⟨b, off, none⟩) n cap zs) (hne : ¬ b = g) (j : Nat) (x : Value) : Row k (w.setCell ⟨g, j, none⟩ x) (some ⟨b, off, none⟩) n cap zs := by
  refine ⟨h.len, h.le, h.max, fun h0 => ?_, h.nil⟩
  obtain ⟨b2, o2, e, hb, hc⟩ := h.cells h0
  simp only [Option.some.injEq, Addr.mk.injEq, and_true] at e
  obtain ⟨rfl, rfl⟩ := e
  refine ⟨b, off, rfl, by rw [size_set]; exact hb, fun i hi => ?_⟩
  rw [World.cell?_setCell_other _ _ _ _ (fun e => by simp only [Addr.mk.injEq] at e; exact hne e.1.symm)]
  exact hc i hi
/-- A slice of a call's own stays as it is when an elder block is written. -/
theorem fresh_apart {w w1 : World} {a1 : Option Addr} {n cap g : Nat} {zs : List Int} (h : Row .i64 w1 a1 n cap zs) (hf : Fresh w a1 n) (hg : g < w.heap.size) (j : Nat) (x : Value) : Row .i64 (w1.setCell ⟨g, j, none⟩ x) a1 n cap zs := by
  rcases Nat.eq_zero_or_pos n with rfl | h0
  · exact ⟨h.len, h.le, h.max, fun q => absurd q (by omega), h.nil⟩
  · obtain ⟨b, rfl, hb⟩ := hf h0
    exact row_apart h (by omega) j x
/-- One of the list's sequences, in memory. -/
structure S1 (w : World) (B : Nat) (sa : Option Addr) (j : Nat) (s : Rn.Sq) (gj cj : Nat) : Prop where
  pos : ∃ g0, sa = some ⟨g0, 0, none⟩ ∧ g0 < w.heap.size ∧ w.cell? ⟨g0, j * 4, none⟩ = some (.slice (some ⟨gj, 0, none⟩) s.places.length cj) ∧ w.cell? ⟨g0, j * 4 + 1, none⟩ = some (.int .i64 s.lvl) ∧ w.cell? ⟨g0, j * 4 + 2, none⟩ = some (.int .i64 s.sos) ∧ w.cell? ⟨g0, j * 4 + 3, none⟩ = some (.int .i64 s.eos)
  row : Row .i64 w (some ⟨gj, 0, none⟩) s.places.length cj (Rn.zs s.places)
  le : B ≤ gj
theorem SO.one {B : Nat} {w : World} {sa : Option Addr} {cs : Nat} {hs : List (Nat × Nat)} {ss : List Rn.Sq} (h : SO B w (.slice sa ss.length cs) hs ss) {j : Nat} (hj : j < ss.length) : ∃ gj cj, S1 w B sa j (ss.getD j default) gj cj := by
  obtain ⟨g, c2, e, _, _⟩ := owns_pos h.oa (by omega)
  simp only [Value.slice.injEq] at e
  obtain ⟨rfl, _, rfl⟩ := e
  have key : ∀ i, i < 4 → w.cell? ⟨g, j * 4 + i, none⟩ = (sc (hs.getD j (0, 0)) (ss.getD j default))[i]? := fun i hi => by
    have hlen : (scs hs ss).length = ss.length * 4 := h.oa.1
    have := h.oa.lt g rfl
    rw [show w.cell? ⟨g, j * 4 + i, none⟩ = (scs hs ss)[j * 4 + i]? from h.oa.cellAt (j * 4 + i) (by rw [hlen.symm, hlen]; omega)]
    exact scs_at hs ss j i h.lh hj hi
  exact ⟨(hs.getD j (0, 0)).1, (hs.getD j (0, 0)).2, ⟨g, rfl, (h.oa.lt g rfl).2, key 0 (by omega), key 1 (by omega), key 2 (by omega), key 3 (by omega)⟩, row_owned (h.rows j hj), ((h.rows j hj).lt _ rfl).1⟩
/-- The rows of levels and types, and the sequences, in a world. -/
structure LPW (w0 W : World) (B g gt n cl ct : Nat) (zs T : List Int) (sv : Value) (ss : List Rn.Sq) : Prop where
  ow : W.ownsRow w0.heap.size 3 1 (.slice (some ⟨g, 0, none⟩) n cl) n (zs.map (Value.int .i64))
  ot : W.ownsRow w0.heap.size 3 1 (.slice (some ⟨gt, 0, none⟩) n ct) n (T.map (Value.int .i64))
  ne : ¬ g = gt
  lt : g < B ∧ gt < B
  so : ∃ hs, SO B W sv hs ss
  bel : Below w0.heap.size w0 W
section
variable {w0 W W' : World} {B g gt n cl ct : Nat} {zs T : List Int} {sv : Value} {ss : List Rn.Sq}
theorem LPW.keep (h : LPW w0 W B g gt n cl ct zs T sv ss) (hk : KO W W') : LPW w0 W' B g gt n cl ct zs T sv ss := by
  obtain ⟨hs, hso⟩ := h.so
  exact ⟨owns_below h.ow hk, owns_below h.ot hk, h.ne, h.lt, ⟨hs, hso.below hk⟩, KO.on h.bel hk⟩
theorem LPW.set (h : LPW w0 W B g gt n cl ct zs T sv ss) (j : Nat) (y : Int) : LPW w0 (W.setCell ⟨g, j, none⟩ (.int .i64 y)) B g gt n cl ct (zs.set j y) T sv ss := by
  obtain ⟨hs, hso⟩ := h.so
  exact ⟨owns_set h.ow j y, owns_other h.ot (fun e => h.ne e.symm), h.ne, h.lt, ⟨hs, hso.low h.lt.1 j _⟩, h.bel.setCell (p := ⟨g, j, none⟩) (h.ow.lt g rfl).1 _⟩
theorem LPW.cell (h : LPW w0 W B g gt n cl ct zs T sv ss) {j : Nat} (hj : j < n) : W.cell? ⟨g, j, none⟩ = some (.int .i64 (zs.getD j 0)) ∧ W.frozen? ⟨g, j, none⟩ = false := ⟨owns_cell h.ow j hj, h.ow.frozenAt j⟩
theorem LPW.types (h : LPW w0 W B g gt n cl ct zs T sv ss) : Row .i64 W (some ⟨gt, 0, none⟩) n ct T := row_owned h.ot
theorem LPW.levels (h : LPW w0 W B g gt n cl ct zs T sv ss) : Row .i64 W (some ⟨g, 0, none⟩) n cl zs := row_owned h.ow
end
end Go.Proofs.YtfadjgaledddjaaGreatDoor
