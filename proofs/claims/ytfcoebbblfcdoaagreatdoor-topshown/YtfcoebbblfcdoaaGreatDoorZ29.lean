import Derived.Test.YtfcoebbblfcdoaaGreatDoorZ24
import Derived.Test.YtfcoebbblfcdoaaGreatDoorZ26
import Derived.Test.YtfcoebbblfcdoaaGreatDoorZ28
import Derived.Test.YtfcoebbblfcdoaaGreatDoorZ19
import Derived.Test.YtfcoebbblfcdoaaGreatDoorZ17
import Derived.Test.YtfcoebbblfcdoaaGreatDoorZ21
import Derived.Test.YtfcoebbblfcdoaaGreatDoorZ22
import Derived.Deep.RegionHeld
import Derived.Test.YtfcoebbblfcdoaaGreatDoorZ11
/- A paragraph as one line, and what is shown of it: mathematics. -/
namespace Go.Proofs.YtfcoebbblfcdoaaGreatDoor
open Go.RowKit
set_option linter.unusedVariables false
def TL (l L : List Int) (m : Int) : List Int := Od.LI (Rn.cl l) L m 0 l.length
theorem TL_len (l L : List Int) (m : Int) : (TL l L m).length = l.length := by unfold TL; rw [Od.LI_len]; omega
structure TF (l L : List Int) (m : Int) : Prop where
 two : m = 0 \/ m = 1
 len : L.length = l.length
 fo : Od.Fo L
 seps : Od.Seps (Rn.cl l) L
 fx : Od.Fo (TL l L m)
theorem sep_rm {x : Int} (h : Od.sep x = true) : Ex.rm x = false := by
 rcases Od.sep_iff.1 h with rfl | rfl <;> rfl
theorem top_facts {l : List Int} {base m : Int} {L : List Int} (h : Rn.PA l base m L 0) : TF l L m := by
 obtain ⟨h2, _, hl, hL, hF, _⟩ := Rn.PA_again h
 have hat : ∀ i, i < l.length -> -1 <= L.getD i 0 /\ L.getD i 0 <= 126 /\ (Od.sep ((Rn.cl l).getD i 0) = true -> 0 <= L.getD i 0) := by
  intro i hi
  have hc := Rn.VS_cases h2 hF hi
  rw [<- hL, <- Rn.cl_at l hi] at hc
  rcases hc with ⟨q1, q2, _⟩ | ⟨q1, q2⟩ | ⟨q1, _, q2, q3⟩
  ·refine ⟨by omega, by omega, fun q => ?_⟩
   rw [sep_rm q] at q1
   cases q1
  ·refine ⟨by omega, by omega, fun _ => by omega⟩
  ·refine ⟨by omega, by omega, fun _ => by omega⟩
 refine ⟨h2, hl, fun i hi => ?_, fun i hi => ?_, fun i hi => ?_⟩
 ·have := hat i (by omega)
  omega
 ·have := hat i (by omega)
  exact ⟨this.1, this.2.2⟩
 ·rw [TL_len] at hi
  unfold TL
  rw [Od.LI_at (by omega), Nat.zero_add]
  have := hat i hi
  unfold Od.li
  split <;> omega
theorem TL_line {l L : List Int} {m : Int} (h : TF l L m) {n : Nat} (hn : l.length = n) : Od.LX (mid (Rn.cl l) 0 n) (mid L 0 n) m (n - 0) 0 = TL l L m := by
 subst hn
 exact Od.line_same h.seps (by rw [h.len]; omega)
def TA (l : List Int) (base m : Int) (X S : List Int) (E : Int) : Prop := ∃ L, Rn.PA l base m L E /\ ((E = 0 /\ X = TL l L m /\ S = Mi.SW l X) \/ (¬ E = 0 /\ X = [] /\ S = []))
theorem TA_some (l : List Int) (base : Int) : ∃ m X S E, TA l base m X S E := by
 obtain ⟨m, L, E, h⟩ := Rn.PA_some l base
 by_cases hE : E = 0
 ·exact ⟨m, _, _, E, L, h, .inl ⟨hE, rfl, rfl⟩⟩
 ·exact ⟨m, _, _, E, L, h, .inr ⟨hE, rfl, rfl⟩⟩
theorem TA_show {l : List Int} {base m : Int} {X S : List Int} (h : TA l base m X S 0) : X.length = l.length /\ Od.Fo X /\ SHA l X S 0 := by
 obtain ⟨L, hA, ⟨_, hX, hS⟩ | ⟨h0, _⟩⟩ := h
 ·have hf := top_facts hA
  have hl : X.length = l.length := by rw [hX, TL_len]
  have hx : Od.Fo X := by rw [hX]; exact hf.fx
  exact ⟨hl, hx, .inl ⟨hl.symm, hx, hS, rfl⟩⟩
 ·exact absurd rfl h0
theorem TA_wf {l : List Int} {base m : Int} {X S : List Int} (h : TA l base m X S 0) (hw : ∀ x ∈ l, (Lit.int .i32 x).wf = true) : ∀ x ∈ S, (Lit.int .i32 x).wf = true := by
 have h1 := TA_show h
 rcases h1.2.2 with ⟨_, _, hS, _⟩ | ⟨_, _, h0⟩
 ·rw [hS]
  exact SW_wf h1.2.1 h1.1.symm hw
 ·cases h0
theorem TA_no {l : List Int} {base m : Int} {X S : List Int} {E : Int} (h : TA l base m X S E) (hE : ¬ E = 0) : m = 0 /\ X = [] /\ S = [] := by
 obtain ⟨L, hA, ⟨h0, _⟩ | ⟨_, hX, hS⟩⟩ := h
 ·exact absurd h0 hE
 ·rcases Rn.PA_err hA with ⟨h0, _⟩ | ⟨_, hm, _⟩
  ·exact absurd h0 hE
  ·exact ⟨hm, hX, hS⟩
end Go.Proofs.YtfcoebbblfcdoaaGreatDoor

/- A new row that a call makes and fills place by place: of whatever integers. -/
namespace Go.Proofs.YtfcoebbblfcdoaaGreatDoor
open Go.RowKit
set_option linter.unusedVariables false
set_option maxHeartbeats 1000000
set_option maxRecDepth 100000
def FL (f : Nat -> Int) (n k : Nat) : List Int := (List.range n).map fun i => if i < k then f i else 0
theorem FL_len (f : Nat -> Int) (n k : Nat) : (FL f n k).length = n := by simp [FL]
theorem FL_zero (f : Nat -> Int) (n : Nat) : FL f n 0 = List.replicate n 0 := by
 refine List.ext_getElem (by simp [FL]) fun i h1 h2 => ?_
 simp [FL]
theorem FL_set (f : Nat -> Int) (n k : Nat) : (FL f n k).set k (f k) = FL f n (k + 1) := by
 refine List.ext_getElem (by simp [FL]) fun i h1 h2 => ?_
 simp only [List.length_set, FL_len] at h1
 rw [List.getElem_set]
 simp only [FL, List.getElem_map, List.getElem_range]
 by_cases h : k = i
 ·subst h; simp
 ·rw [if_neg h]
  by_cases hlt : i < k
  ·rw [if_pos hlt, if_pos (by omega)]
  ·rw [if_neg hlt, if_neg (by omega)]
theorem FL_end (f : Nat -> Int) (n : Nat) : FL f n n = (List.range n).map f := by
 unfold FL
 refine List.map_congr_left fun i hi => ?_
 rw [if_pos (List.mem_range.1 hi)]
structure NR (k : IntKind) (e : TypeId) (w : World) (n : Nat) (zs : List Int) (wr : World) : Prop where
 own : wr.ownsRow w.heap.size e 1 (.slice (some ⟨w.heap.size, 0, none⟩) n n) n (zs.map (Value.int k))
 bel : Below w.heap.size w wr
section
variable {k : IntKind} {e : TypeId} {w wr : World} {n : Nat} {zs : List Int}
theorem NR.set (h : NR k e w n zs wr) (j : Nat) (y : Int) : NR k e w n (zs.set j y) (wr.setCell ⟨w.heap.size, j, none⟩ (.int k y)) :=
 ⟨owns_set h.own j y, h.bel.setCell (p := ⟨w.heap.size, j, none⟩) (Nat.le_refl _) _⟩
theorem NR.keep (h : NR k e w n zs wr) {w2 : World} (hb : KO wr w2) : NR k e w n zs w2 := ⟨owns_below h.own hb, KO.on h.bel hb⟩
theorem NR.drewN (h : NR k e w n zs wr) (q : Nat) : NR k e w n zs (wr.drewN q) := h.keep (below_drewN wr q)
theorem NR.cell (h : NR k e w n zs wr) {j : Nat} (hj : j < n) : wr.cell? ⟨w.heap.size, j, none⟩ = some (.int k (zs.getD j 0)) := owns_cell h.own j hj
theorem NR.fz (h : NR k e w n zs wr) (j : Nat) : wr.frozen? ⟨w.heap.size, j, none⟩ = false := h.own.frozenAt j
theorem NR.row (h : NR k e w n zs wr) : Row k wr (some ⟨w.heap.size, 0, none⟩) n n zs := by
 obtain ⟨ao, c, e1, hr⟩ := row_of_owns h.own
 simp only [Value.slice.injEq] at e1
 obtain ⟨rfl, _, rfl⟩ := e1
 exact hr
theorem NR.made (hown : wr.ownsRow w.heap.size e 1 (.slice (some ⟨w.heap.size, 0, none⟩) n n) n (madeCells #[.int k 0] n).toList) (hb : Below w.heap.size w wr) (f : Nat -> Int) : NR k e w n (FL f n 0) wr := by
 refine ⟨?_, hb⟩
 have e2 : (madeCells #[Value.int k 0] n).toList = (FL f n 0).map (Value.int k) := by
  rw [FL_zero]
  simp [toList_madeCells_one]
 rw [<- e2]
 exact hown
end
end Go.Proofs.YtfcoebbblfcdoaaGreatDoor

/- Classes; what stands at some places of a list. -/
namespace Go.Proofs.YtfcoebbblfcdoaaGreatDoor
open Go.RowKit
set_option linter.unusedVariables false
set_option maxHeartbeats 1000000
set_option maxRecDepth 100000
theorem infoRune12 : (Tryz.prog.info? 21).map (fun i => (i.zero, i.size, i.bytes)) = some (some (.int .i32 0), 1, 4) := by kernel_rfl
theorem wf_at {k : IntKind} {l : List Int} (h : ∀ x ∈ l, (Lit.int k x).wf = true) {i : Nat} (hi : i < l.length) : (Lit.int k (l.getD i 0)).wf = true := by
 rw [show l.getD i 0 = l[i] from by simp [List.getD, hi]]
 exact h _ (List.getElem_mem _)
theorem FL_cl (l : List Int) : FL (fun i => Ucd.cls (l.getD i 0)) l.length l.length = Rn.cl l := by
 rw [FL_end]
 refine List.ext_getElem (by simp [Rn.cl]) fun i h1 h2 => ?_
 simp only [List.length_map, List.length_range] at h1
 simp [Rn.cl, List.getD, h1]
theorem FL_pk (t : List Int) (ps : List Nat) : FL (fun i => t.getD (ps.getD i 0) 0) ps.length ps.length = Rn.pk t ps := by
 rw [FL_end]
 refine List.ext_getElem (by simp [Rn.pk]) fun i h1 h2 => ?_
 simp only [List.length_map, List.length_range] at h1
 simp [Rn.pk, List.getD, h1]
theorem classes_any (ao : Option Addr) (n cap : Nat) (l : List Int) (w : World) (h : Row .i32 w ao n cap l) (hf : ∀ x ∈ l, (Lit.int .i32 x).wf = true) (hn : n * 8 <= 140737488351232) :
  Calls Tryz.prog 22 #[.slice ao n cap] w fun e w' => e = .returned (.slice (some ⟨w.heap.size, 0, none⟩) n n) /\ NR .i64 3 w n (Rn.cl l) w' := by
 obtain ⟨ii, hii, hy0, hy1, hy2⟩ := info_parts infoInt
 have HII : Hid (Tryz.prog.info? 3 = some ii) := hii
 have HY0 := hide hy0
 have HY1 := hide hy1
 have HY2 := hide hy2
 have H := hide h
 have HL := hide h.len
 have HF := hide hf
 have HE := hide (FL_cl l)
 have hn2 : n <= 17592186044416 := by omega
 clear h hf hii hy0 hy1 hy2
 go_enter Tryz.func22, Tryz.ntmps22
 go_wp2_with (at_make; refine wpList_make_full _ rfl _ _ 30 rfl w.heap.size 3 ii (.int .i64 0) 1 Tryz.underlying30 HII.out HY0.out HY1.out _ _ _ _ n rfl rfl rfl rfl ?b2 ?b3 (Nat.le_refl _) ?_)
 case b2 => rw [HY2.out]; omega
 case b3 => unfold maxLen; omega
 intro w1 hown hgrow
 have hbel := (Below.refl w.heap.size w).grown hgrow (Nat.le_refl _) (fun _ h => by cases h)
 have HO : Hid (NR .i64 3 w n (FL (fun i => Ucd.cls (l.getD i 0)) n 0) w1) := NR.made (by simpa using hown) hbel _
 clear hown hgrow hbel
 go_wp2
 go_loopw [4, 5, 11] (fun s4 s5 s11 wr => ∃ k : Nat, k <= n /\ s11 = .int .i64 (k : Int) /\ Hid (NR .i64 3 w n (FL (fun i => Ucd.cls (l.getD i 0)) n k) wr)) (fun _ _ s11 _ => n - (intOf s11).toNat)
 case atStart => exact ⟨0, Nat.zero_le _, rfl, HO⟩
 case round =>
  obtain ⟨k, hk, rfl, hm⟩ := hrel
  by_cases hlt : k < n
  ·have hkl : k < l.length := by rw [HL.out]; exact hlt
   obtain ⟨b, off, rfl, hbl, hc⟩ := H.out.cells (by omega)
   have ck : wr.cell? ⟨b, off + k, none⟩ = some (.int .i32 (l.getD k 0)) := (hm.out.bel.cell (by exact hbl)).trans (hc k hkl)
   have HC := hide (class_any (l.getD k 0) wr (wf_at HF.out hkl))
   have HS := hide (FL_set (fun i => Ucd.cls (l.getD i 0)) n k)
   have hin : (k : Int) < (n : Int) := by omega
   clear hc
   generalize hF : FL (fun i => Ucd.cls (l.getD i 0)) n k = F at *
   generalize hx : l.getD k 0 = x at *
   clear hF hx
   go_wp2_with fail
   refine HC.out.mono ?_
   rintro e w2 ⟨rfl, hb2⟩
   have hm2 := hm.out.keep hb2
   have co := hm2.cell hlt
   have hfz := hm2.fz k
   have HM2 := hide (hm2.set k (Ucd.cls x))
   rw [HS.out] at HM2
   generalize Ucd.cls x = y at *
   clear hm2 hb2 HC
   go_wp2
   go_roundw
   case rel => exact ⟨k + 1, by omega, by go_num, HM2⟩
   case measure => simp [intOf]; omega
  ·obtain rfl : k = n := by omega
   have hne : ¬ ((k : Int) < (k : Int)) := by omega
   have HM := hide (show NR .i64 3 w k (Rn.cl l) wr from by
    have := hm.out
    rw [<- HL.out, HE.out, HL.out] at this
    exact this)
   clear hm
   go_wp2
   go_ret
   exact ⟨rfl, HM.out⟩
theorem zs_len (ps : List Nat) : (Rn.zs ps).length = ps.length := by simp [Rn.zs]
theorem zs_at (ps : List Nat) {i : Nat} (hi : i < ps.length) : (Rn.zs ps).getD i 0 = (ps.getD i 0 : Int) := by simp [Rn.zs, List.getD, hi]
theorem pickr_any (ao ap : Option Addr) (n cap np cp : Nat) (l : List Int) (ps : List Nat) (w : World) (h : Row .i32 w ao n cap l) (hp : Row .i64 w ap np cp (Rn.zs ps)) (hlt : ∀ i ∈ ps, i < n) (hn : np <= 100000) :
  Calls Tryz.prog 71 #[.slice ao n cap, .slice ap np cp] w fun e w' => e = .returned (.slice (some ⟨w.heap.size, 0, none⟩) np np) /\ NR .i32 21 w np (Rn.pk l ps) w' := by
 obtain ⟨ii, hii, hy0, hy1, hy2⟩ := info_parts infoRune12
 have HII : Hid (Tryz.prog.info? 21 = some ii) := hii
 have HY0 := hide hy0
 have HY1 := hide hy1
 have HY2 := hide hy2
 have hnp : ps.length = np := by have := hp.len; rw [zs_len] at this; exact this
 have H := hide h
 have HP := hide hp
 have HL := hide h.len
 have HNP := hide hnp
 have HLT := hide hlt
 have HE := hide (FL_pk l ps)
 clear h hp hlt hnp hii hy0 hy1 hy2
 go_enter Tryz.func71, Tryz.ntmps71
 go_wp2_with (at_make; refine wpList_make_full _ rfl _ _ 23 rfl w.heap.size 21 ii (.int .i32 0) 1 Tryz.underlying23 HII.out HY0.out HY1.out _ _ _ _ np rfl rfl rfl rfl ?b2 ?b3 (Nat.le_refl _) ?_)
 case b2 => rw [HY2.out]; omega
 case b3 => unfold maxLen; omega
 intro w1 hown hgrow
 have hbel := (Below.refl w.heap.size w).grown hgrow (Nat.le_refl _) (fun _ h => by cases h)
 have HO : Hid (NR .i32 21 w np (FL (fun i => l.getD (ps.getD i 0) 0) np 0) w1) := NR.made (by simpa using hown) hbel _
 clear hown hgrow hbel
 go_wp2
 go_loopw [6, 7, 13] (fun s6 s7 s13 wr => ∃ k : Nat, k <= np /\ s13 = .int .i64 (k : Int) /\ Hid (NR .i32 21 w np (FL (fun i => l.getD (ps.getD i 0) 0) np k) wr)) (fun _ _ s13 _ => np - (intOf s13).toNat)
 case atStart => exact ⟨0, Nat.zero_le _, rfl, HO⟩
 case round =>
  obtain ⟨k, hk, rfl, hm⟩ := hrel
  by_cases hlt : k < np
  ·have hkl : k < ps.length := by rw [HNP.out]; exact hlt
   have hpl : ps.getD k 0 < n := HLT.out _ (Rn.getD_mem hkl)
   obtain ⟨b, off, rfl, hbl, hc⟩ := H.out.cells (by omega)
   obtain ⟨bp, op, rfl, hbp, hcp⟩ := HP.out.cells (by omega)
   have ck : wr.cell? ⟨bp, op + k, none⟩ = some (.int .i64 (ps.getD k 0 : Int)) := by
    have := (hm.out.bel.cell (by exact hbp)).trans (hcp k (by rw [zs_len]; exact hkl))
    rw [zs_at ps hkl] at this
    exact this
   have cl : wr.cell? ⟨b, off + ps.getD k 0, none⟩ = some (.int .i32 (l.getD (ps.getD k 0) 0)) := (hm.out.bel.cell (by exact hbl)).trans (hc _ (by rw [HL.out]; exact hpl))
   have HS := hide (FL_set (fun i => l.getD (ps.getD i 0) 0) np k)
   have hin : (k : Int) < (np : Int) := by omega
   have hin2 : ((ps.getD k 0 : Nat) : Int) < (n : Int) := by omega
   have co := hm.out.cell hlt
   have hfz := hm.out.fz k
   have HM2 := hide (hm.out.set k (l.getD (ps.getD k 0) 0))
   rw [HS.out] at HM2
   clear hc hcp hm HS
   generalize l.getD (ps.getD k 0) 0 = y at *
   generalize ps.getD k 0 = j at *
   generalize (FL (fun i => l.getD (ps.getD i 0) 0) np k).getD k 0 = y0 at *
   go_wp2
   go_roundw
   case rel => exact ⟨k + 1, by omega, by go_num, HM2⟩
   case measure => simp [intOf]; omega
  ·obtain rfl : k = np := by omega
   have hne : ¬ ((k : Int) < (k : Int)) := by omega
   have HM := hide (show NR .i32 21 w k (Rn.pk l ps) wr from by
    have := hm.out
    rw [<- HNP.out, HE.out, HNP.out] at this
    exact this)
   clear hm
   go_wp2
   go_ret
   exact ⟨rfl, HM.out⟩
theorem picki_any (ao ap : Option Addr) (n cap np cp : Nat) (l : List Int) (ps : List Nat) (w : World) (h : Row .i64 w ao n cap l) (hp : Row .i64 w ap np cp (Rn.zs ps)) (hlt : ∀ i ∈ ps, i < n) (hn : np <= 100000) :
  Calls Tryz.prog 72 #[.slice ao n cap, .slice ap np cp] w fun e w' => e = .returned (.slice (some ⟨w.heap.size, 0, none⟩) np np) /\ NR .i64 3 w np (Rn.pk l ps) w' := by
 obtain ⟨ii, hii, hy0, hy1, hy2⟩ := info_parts infoInt
 have HII : Hid (Tryz.prog.info? 3 = some ii) := hii
 have HY0 := hide hy0
 have HY1 := hide hy1
 have HY2 := hide hy2
 have hnp : ps.length = np := by have := hp.len; rw [zs_len] at this; exact this
 have H := hide h
 have HP := hide hp
 have HL := hide h.len
 have HNP := hide hnp
 have HLT := hide hlt
 have HE := hide (FL_pk l ps)
 clear h hp hlt hnp hii hy0 hy1 hy2
 go_enter Tryz.func72, Tryz.ntmps72
 go_wp2_with (at_make; refine wpList_make_full _ rfl _ _ 30 rfl w.heap.size 3 ii (.int .i64 0) 1 Tryz.underlying30 HII.out HY0.out HY1.out _ _ _ _ np rfl rfl rfl rfl ?b2 ?b3 (Nat.le_refl _) ?_)
 case b2 => rw [HY2.out]; omega
 case b3 => unfold maxLen; omega
 intro w1 hown hgrow
 have hbel := (Below.refl w.heap.size w).grown hgrow (Nat.le_refl _) (fun _ h => by cases h)
 have HO : Hid (NR .i64 3 w np (FL (fun i => l.getD (ps.getD i 0) 0) np 0) w1) := NR.made (by simpa using hown) hbel _
 clear hown hgrow hbel
 go_wp2
 go_loopw [6, 7, 13] (fun s6 s7 s13 wr => ∃ k : Nat, k <= np /\ s13 = .int .i64 (k : Int) /\ Hid (NR .i64 3 w np (FL (fun i => l.getD (ps.getD i 0) 0) np k) wr)) (fun _ _ s13 _ => np - (intOf s13).toNat)
 case atStart => exact ⟨0, Nat.zero_le _, rfl, HO⟩
 case round =>
  obtain ⟨k, hk, rfl, hm⟩ := hrel
  by_cases hlt : k < np
  ·have hkl : k < ps.length := by rw [HNP.out]; exact hlt
   have hpl : ps.getD k 0 < n := HLT.out _ (Rn.getD_mem hkl)
   obtain ⟨b, off, rfl, hbl, hc⟩ := H.out.cells (by omega)
   obtain ⟨bp, op, rfl, hbp, hcp⟩ := HP.out.cells (by omega)
   have ck : wr.cell? ⟨bp, op + k, none⟩ = some (.int .i64 (ps.getD k 0 : Int)) := by
    have := (hm.out.bel.cell (by exact hbp)).trans (hcp k (by rw [zs_len]; exact hkl))
    rw [zs_at ps hkl] at this
    exact this
   have cl : wr.cell? ⟨b, off + ps.getD k 0, none⟩ = some (.int .i64 (l.getD (ps.getD k 0) 0)) := (hm.out.bel.cell (by exact hbl)).trans (hc _ (by rw [HL.out]; exact hpl))
   have HS := hide (FL_set (fun i => l.getD (ps.getD i 0) 0) np k)
   have hin : (k : Int) < (np : Int) := by omega
   have hin2 : ((ps.getD k 0 : Nat) : Int) < (n : Int) := by omega
   have co := hm.out.cell hlt
   have hfz := hm.out.fz k
   have HM2 := hide (hm.out.set k (l.getD (ps.getD k 0) 0))
   rw [HS.out] at HM2
   clear hc hcp hm HS
   generalize l.getD (ps.getD k 0) 0 = y at *
   generalize ps.getD k 0 = j at *
   generalize (FL (fun i => l.getD (ps.getD i 0) 0) np k).getD k 0 = y0 at *
   go_wp2
   go_roundw
   case rel => exact ⟨k + 1, by omega, by go_num, HM2⟩
   case measure => simp [intOf]; omega
  ·obtain rfl : k = np := by omega
   have hne : ¬ ((k : Int) < (k : Int)) := by omega
   have HM := hide (show NR .i64 3 w k (Rn.pk l ps) wr from by
    have := hm.out
    rw [<- HNP.out, HE.out, HNP.out] at this
    exact this)
   clear hm
   go_wp2
   go_ret
   exact ⟨rfl, HM.out⟩
end Go.Proofs.YtfcoebbblfcdoaaGreatDoor

/- Levels; works: the chapter's examples. -/
namespace Go.Proofs.YtfcoebbblfcdoaaGreatDoor
open Go.RowKit
set_option linter.unusedVariables false
set_option maxHeartbeats 1000000
set_option maxRecDepth 100000
def Fresh (w : World) (a1 : Option Addr) (m : Nat) : Prop := 0 < m -> ∃ g, a1 = some ⟨g, 0, none⟩ /\ w.heap.size <= g
theorem Fresh.nil (w : World) {a1 : Option Addr} : Fresh w a1 0 := fun h => absurd h (by decide)
theorem Fresh.some {w : World} {g : Nat} (h : w.heap.size <= g) (m : Nat) : Fresh w (some ⟨g, 0, none⟩) m := fun _ => ⟨g, rfl, h⟩
theorem nlevels_go (ao : Option Addr) (n cap : Nat) (lv : Int) (t : List Int) (w : World) (h : Row .i64 w ao n cap t) (hf : WF t) (hn : n * 8 <= 140737488351232) (hg : Ne.Lev lv) (L : List Int) (E : Int) (hA : (¬ Ne.Sided t /\ L = [] /\ E = 50) \/ (Ne.Sided t /\ L = Ne.LS t lv /\ E = 0)) :
  Calls Tryz.prog 150 #[.slice ao n cap, .int .i64 lv] w fun e w' => ∃ a1 c1, e = .returned (.tuple #[.slice a1 L.length c1, .int .i64 E]) /\ Row .i64 w' a1 L.length c1 L /\ KO w w' /\ Fresh w a1 L.length := by
 have HL := hide (fun w' => isLevel_any lv w')
 rw [decide_eq_true hg] at HL
 have hn2 : n <= 17592186044416 := by omega
 have HM := hide (nsides_any w)
 have H := hide h
 have HLEN := hide h.len
 have HF := hide hf
 have HNN := hide hn
 have HG := hide hg
 have HA := hide hA
 obtain ⟨cur, hcl, hmk⟩ := nmade_ints n hn
 have HCL := hide hcl
 have HMK := hide hmk
 clear hg h hn hf hcl hmk hA
 go_enter Tryz.func150, Tryz.ntmps150
 go_wp2_with fail
 refine (HL.out _).mono ?_
 rintro e w' ⟨rfl, rfl⟩
 go_wp2_with fail
 refine HM.out.mono ?_
 rintro e w1 ⟨rfl, hm, hk⟩
 have HSM := hide hm
 have HK := hide hk
 clear hm hk HM HL
 have hmk := HMK.out w1
 have HR1 := hide (H.out.below HK.out)
 have HO0 : Hid (OW w1.heap.size w1.heap.size n n (Ne.LL t lv 0) w1 (w1.alloc (.cells cur 3))) := hide ⟨by
  rw [Ne.LL_zero, HLEN.out]
  exact owns_block (cur := cur) (World.alloc_heap_new w1 _) HCL.out (by simp) (by unfold maxLen; have := HNN.out; omega) (Nat.le_refl _), (Below.refl _ _).alloc (Nat.le_refl _) _⟩
 go_wp2
 go_loopw [19] (fun v wr => ∃ j : Nat, v = .int .i64 (j : Int) /\ j <= n /\ Hid (∀ i, i < j -> Ne.sd (t.getD i 0) ≠ 0) /\ Hid (OW w1.heap.size w1.heap.size n n (Ne.LL t lv j) w1 wr)) (fun v _ => n - (intOf v).toNat)
 case atStart => exact ⟨0, rfl, Nat.zero_le _, hide (fun i hi => by omega), HO0⟩
 case round =>
  obtain ⟨j, rfl, hj, hall, hW⟩ := hrel
  by_cases hlt : j < n
  ·have HTr := hide (HR1.out.below hW.out.bel)
   obtain ⟨b, off, rfl, hbl, hc⟩ := HTr.out.cells (by omega)
   have ck := hc j (by rw [HLEN.out]; exact hlt)
   have hin : (j : Int) < (n : Int) := by omega
   have HH := hide (has_any w.heap.size (t.getD j 0) (HF.out.at j) wr (HSM.out.below hW.out.bel))
   have HM := hide (meas_n0 n j hlt)
   have co := hW.out.cell hlt
   have fo := hW.out.own.frozenAt j
   generalize (Ne.LL t lv j).getD j 0 = old at co
   by_cases hs : Ne.sd (t.getD j 0) = 0
   ·have hb : (Ne.sd (t.getD j 0) != 0) = false := by rw [hs]; rfl
    rw [hb] at HH
    have HE := hide (show L = [] /\ E = 50 from by
     rcases HA.out with ⟨_, h1, h2⟩ | ⟨h1, _⟩
     ·exact ⟨h1, h2⟩
     ·exact absurd hs (h1 j (by rw [HLEN.out]; exact hlt)))
    have HKW := hide (KO.on HK.out hW.out.bel)
    clear hb hs hc hbl hall
    generalize t.getD j 0 = x at *
    go_wp2_with (go_at_call 162; refine HH.out.mono ?_; rintro e w' ⟨rfl, rfl⟩)
    obtain ⟨rfl, rfl⟩ := HE.out
    go_ret2
    exact ⟨none, 0, rfl, row_nil _ _, HKW.out, Fresh.nil _⟩
   ·have hb : (Ne.sd (t.getD j 0) != 0) = true := bne_iff_ne.2 hs
    rw [hb] at HH
    have HA2 := hide (show ∀ i, i < j + 1 -> Ne.sd (t.getD i 0) ≠ 0 from fun i hi => by
     by_cases e : i = j
     ·subst e; exact hs
     ·exact hall.out i (by omega))
    have HD := hide (fun w' => deeper_any (t.getD j 0) lv hs HG.out.1 w')
    have h2 := Ne.lv1_two (lv := lv) hs
    have hw : wrap64 (lv + Ne.dp (t.getD j 0) lv) = Ne.lv1 lv (t.getD j 0) := by
     have h1 := HG.out.1
     have h3 := HG.out.2
     unfold Ne.dp
     rw [show lv + (Ne.lv1 lv (t.getD j 0) - lv) = Ne.lv1 lv (t.getD j 0) by omega]
     exact w64_small (by omega) (by omega)
    have HN0 := hide (show OW w1.heap.size w1.heap.size n n (Ne.LL t lv (j + 1)) w1 (wr.setCell ⟨w1.heap.size, j, none⟩ (.int .i64 (Ne.lv1 lv (t.getD j 0)))) from by
      rw [<- Ne.LL_succ]; exact hW.out.set j _)
    clear hb hs hc hbl hall h2
    generalize Ne.lv1 lv (t.getD j 0) = y at *
    generalize Ne.dp (t.getD j 0) lv = dd at *
    generalize t.getD j 0 = x at *
    go_wp2_with (first | (go_at_call 162; refine HH.out.mono ?_; rintro e w' ⟨rfl, rfl⟩) | (go_at_call 168; refine (HD.out _).mono ?_; rintro e w' ⟨rfl, rfl⟩))
    go_roundw
    case rel => exact ⟨j + 1, by go_num, by omega, HA2, HN0⟩
    case measure => exact HM.out
  ·obtain rfl : j = n := by omega
   have hne : ¬ ((j : Int) < (j : Int)) := by omega
   have HE := hide (show L = Ne.LS t lv /\ E = 0 from by
    rcases HA.out with ⟨h1, _⟩ | ⟨_, h1, h2⟩
    ·exact absurd (fun i hi => hall.out i (by rw [HLEN.out] at hi; exact hi)) h1
    ·exact ⟨h1, h2⟩)
   have HWW := hide (show Row .i64 wr (some ⟨w1.heap.size, 0, none⟩) j j (Ne.LS t lv) /\ KO w wr /\ (Ne.LS t lv).length = j /\ w.heap.size <= w1.heap.size from by
    have h2 := hW.out.row
    rw [<- HLEN.out, Ne.LL_all, HLEN.out] at h2
    exact ⟨h2, KO.on HK.out hW.out.bel, by rw [Ne.LS_len, HLEN.out], HK.out.size⟩)
   clear hW hlt hall
   go_wp2
   obtain ⟨rfl, rfl⟩ := HE.out
   go_ret2
   rw [HWW.out.2.2.1]
   exact ⟨_, j, rfl, HWW.out.1, HWW.out.2.1, Fresh.some HWW.out.2.2.2 _⟩
theorem nresolve_any (ao : Option Addr) (n cap : Nat) (lv so eo : Int) (t : List Int) (w : World) (h : Row .i64 w ao n cap t) (hf : WF t) (hn : n * 8 <= 140737488351232) (L : List Int) (E : Int) (hA : Ne.AR t lv so eo L E) :
  Calls Tryz.prog 149 #[.slice ao n cap, .int .i64 lv, .int .i64 so, .int .i64 eo] w fun e w' => ∃ a1 c1, e = .returned (.tuple #[.slice a1 L.length c1, .int .i64 E]) /\ Row .i64 w' a1 L.length c1 L /\ KO w w' := by
 rcases hA with ⟨hg, rfl, rfl⟩ | ⟨hg, ho, rfl, rfl⟩ | ⟨hg, ho, rfl, rfl⟩
 ·exact (nresolve_bad ao n cap lv so eo w hg).mono fun e w' ⟨he, hk⟩ => ⟨none, 0, he, row_nil _ _, by rw [<- hk]; exact KO.refl _⟩
 ·exact (nresolve_form ao n cap lv so eo t w h hf hn hg ho).mono fun e w' ⟨he, hk⟩ => ⟨none, 0, he, row_nil _ _, hk⟩
 ·refine (nresolve_ok ao n cap lv so eo t w h hf hn hg ho).mono fun e w' ⟨g, he, hr, hk⟩ => ?_
  rw [Ne.RS_len, h.len]
  exact ⟨_, _, he, hr, hk⟩
end Go.Proofs.YtfcoebbblfcdoaaGreatDoor

/- The rules as a sequence applies them, and all of them. -/
namespace Go.Proofs.YtfcoebbblfcdoaaGreatDoor
open Go.RowKit
set_option linter.unusedVariables false
set_option maxHeartbeats 1000000
set_option maxRecDepth 100000
structure SV (w : World) (p : Nat) (ap : Option Addr) (np cp : Nat) (lv so eo : Int) (an : Option Addr) (n cn : Nat) (at' : Option Addr) (ct : Nat) (tx ty : List Int) : Prop where
 hp : w.heap[p]? = some (.cells #[.slice ap np cp, .int .i64 lv, .int .i64 so, .int .i64 eo, .slice an n cn, .slice at' n ct] 120 (0, 0))
 rn : Row .i32 w an n cn tx
 rt : Row .i64 w at' n ct ty
section
variable {w w' : World} {p : Nat} {ap : Option Addr} {np cp : Nat} {lv so eo : Int} {an : Option Addr} {n cn : Nat} {at' : Option Addr} {ct : Nat} {tx ty : List Int}
theorem SV.keep (h : SV w p ap np cp lv so eo an n cn at' ct tx ty) (hk : KO w w') : SV w' p ap np cp lv so eo an n cn at' ct tx ty :=
 ⟨(Below.block hk p (Array.getElem?_eq_some_iff.1 h.hp).1).trans h.hp, h.rn.below hk, h.rt.below hk⟩
theorem SV.c (h : SV w p ap np cp lv so eo an n cn at' ct tx ty) : w.cell? ⟨p, 0, none⟩ = some (.slice ap np cp) /\ w.cell? ⟨p, 1, none⟩ = some (.int .i64 lv) /\ w.cell? ⟨p, 2, none⟩ = some (.int .i64 so) /\ w.cell? ⟨p, 3, none⟩ = some (.int .i64 eo) /\ w.cell? ⟨p, 4, none⟩ = some (.slice an n cn) /\ w.cell? ⟨p, 5, none⟩ = some (.slice at' n ct) := by
 refine ⟨?_, ?_, ?_, ?_, ?_, ?_⟩ <;> simp [World.cell?, h.hp]
def RW (w : World) (n : Nat) (L : List Int) (e : Ending) (w' : World) : Prop := ∃ a1 c1, e = .returned (.tuple #[.slice a1 n c1, .int .i64 0]) /\ Row .i64 w' a1 n c1 L /\ KO w w'
theorem sweak_any (h : SV w p ap np cp lv so eo an n cn at' ct tx ty) (a0 : Option Addr) (m c0 : Nat) (t : List Int) (h0 : Row .i64 w a0 m c0 t) (hn : m <= 100000) (hs : We.Side so) (ho : We.Ok t) :
  Calls Tryz.prog 134 #[.pointer (some ⟨p, 0, none⟩), .slice a0 m c0] w (RW w m (Rn.T9 t so)) := by
 obtain ⟨_, _, q2, _, _, _⟩ := h.c
 have HR := hide (wresolve_ok a0 m c0 so t w h0 (by omega) hs ho)
 clear h h0 hs ho
 go_enter Tryz.func134, Tryz.ntmps134
 go_wp2_with fail
 refine HR.out.mono ?_
 rintro e w1 ⟨g, rfl, hN⟩
 have HN := hide (show Row .i64 w1 (some ⟨g, 0, none⟩) m m (Rn.T9 t so) /\ KO w w1 from ⟨hN.row, hN.bel⟩)
 clear hN
 go_wp2
 go_ret2
 exact ⟨_, _, rfl, HN.out.1, HN.out.2⟩
theorem sbrackets_any (h : SV w p ap np cp lv so eo an n cn at' ct tx ty) (a0 : Option Addr) (c0 : Nat) (t : List Int) (h0 : Row .i64 w a0 n c0 t) (hn : n <= 100000) (hf : ∀ x ∈ tx, (Lit.int .i32 x).wf = true) (hm : Marks w) (L : List Int) (hA : Br.RA tx ty t lv so = (0, L)) (hL : L.length = n) :
  Calls Tryz.prog 135 #[.pointer (some ⟨p, 0, none⟩), .slice a0 n c0] w (RW w n L) := by
 obtain ⟨_, q1, q2, _, q4, q5⟩ := h.c
 have HR := hide (fun W (hk : KO w W) => resolve_any an at' a0 n n n cn ct c0 tx ty t lv so W (h.rn.below hk) (h.rt.below hk) (h0.below hk) hf (hm.below hk) (by omega))
 rw [hA] at HR
 unfold R10 at HR
 simp only [hL] at HR
 have g1 : ∀ w', KO w w' -> w'.cell? ⟨p, 1, none⟩ = some (.int .i64 lv) := fun w' hk => (h.keep hk).c.2.1
 have g2 : ∀ w', KO w w' -> w'.cell? ⟨p, 2, none⟩ = some (.int .i64 so) := fun w' hk => (h.keep hk).c.2.2.1
 have g4 : ∀ w', KO w w' -> w'.cell? ⟨p, 4, none⟩ = some (.slice an n cn) := fun w' hk => (h.keep hk).c.2.2.2.2.1
 have g5 : ∀ w', KO w w' -> w'.cell? ⟨p, 5, none⟩ = some (.slice at' n ct) := fun w' hk => (h.keep hk).c.2.2.2.2.2
 have hK : KO w w := Below.refl _ _
 clear h h0 hf hm hA hL q1 q2 q4 q5
 go_enter Tryz.func135, Tryz.ntmps135
 go_wp2
 refine wp_region_noPanic ?_
 go_region_held (fun w' => KO w w') (first | exact KO.drew hK | assumption)
  (first | (go_at_call 148; refine (HR.out _ (by assumption)).mono ?_; rintro e w1 ⟨a1, c1, rfl, hr, hk1⟩; have hk2 : KO w w1 := KO.on (by assumption) hk1))
 all_goals
  refine NoPanic.normal ?_
  have HB := hide (And.intro hr hk2)
  clear hK hk1 hk2 hr g1 g2 g4 g5
  go_wp2
  go_ret2
  exact ⟨_, _, rfl, HB.out.1, HB.out.2⟩
theorem sneutral_any (h : SV w p ap np cp lv so eo an n cn at' ct tx ty) (a0 : Option Addr) (m c0 : Nat) (t : List Int) (h0 : Row .i64 w a0 m c0 t) (hf : WF t) (hn : m <= 100000) (L : List Int) (hA : Ne.AR t lv so eo L 0) (hL : L.length = m) :
  Calls Tryz.prog 136 #[.pointer (some ⟨p, 0, none⟩), .slice a0 m c0] w (RW w m L) := by
 obtain ⟨_, q1, q2, q3, _, _⟩ := h.c
 have HR := hide (fun W (hk : KO w W) => nresolve_any a0 m c0 lv so eo t W (h0.below hk) hf (by omega) L 0 hA)
 simp only [hL] at HR
 have g1 : ∀ w', KO w w' -> w'.cell? ⟨p, 1, none⟩ = some (.int .i64 lv) := fun w' hk => (h.keep hk).c.2.1
 have g2 : ∀ w', KO w w' -> w'.cell? ⟨p, 2, none⟩ = some (.int .i64 so) := fun w' hk => (h.keep hk).c.2.2.1
 have g3 : ∀ w', KO w w' -> w'.cell? ⟨p, 3, none⟩ = some (.int .i64 eo) := fun w' hk => (h.keep hk).c.2.2.2.1
 have hK : KO w w := Below.refl _ _
 clear h h0 hf hA hL q1 q2 q3
 go_enter Tryz.func136, Tryz.ntmps136
 go_wp2
 refine wp_region_noPanic ?_
 go_region_held (fun w' => KO w w') (first | exact KO.drew hK | assumption)
  (first | (go_at_call 149; refine (HR.out _ (by assumption)).mono ?_; rintro e w1 ⟨a1, c1, rfl, hr, hk1⟩; have hk2 : KO w w1 := KO.on (by assumption) hk1))
 all_goals
  refine NoPanic.normal ?_
  have HB := hide (And.intro hr hk2)
  clear hK hk1 hk2 hr g1 g2 g3
  go_wp2
  go_ret2
  exact ⟨_, _, rfl, HB.out.1, HB.out.2⟩
theorem simplicit_any (h : SV w p ap np cp lv so eo an n cn at' ct tx ty) (a0 : Option Addr) (m c0 : Nat) (t : List Int) (h0 : Row .i64 w a0 m c0 t) (hf : WF t) (hn : m <= 100000) (hg : Ne.Lev lv) (ho : Ne.Sided t) :
  Calls Tryz.prog 137 #[.pointer (some ⟨p, 0, none⟩), .slice a0 m c0] w fun e w' => ∃ a1 c1, e = .returned (.tuple #[.slice a1 m c1, .int .i64 0]) /\ Row .i64 w' a1 m c1 (Ne.LS t lv) /\ KO w w' /\ Fresh w a1 m := by
 obtain ⟨_, q1, _, _, _, _⟩ := h.c
 have HR := hide (nlevels_go a0 m c0 lv t w h0 hf (by omega) hg (Ne.LS t lv) 0 (.inr ⟨ho, rfl, rfl⟩))
 rw [show (Ne.LS t lv).length = m from by rw [Ne.LS_len, h0.len]] at HR
 clear h h0 hf hg ho
 go_enter Tryz.func137, Tryz.ntmps137
 go_wp2_with fail
 refine HR.out.mono ?_
 rintro e w1 ⟨a1, c1, rfl, hr, hk, hfr⟩
 have HN := hide (And.intro hr (And.intro hk hfr))
 clear hr hk hfr
 go_wp2
 go_ret2
 exact ⟨_, _, rfl, HN.out.1, HN.out.2.1, HN.out.2.2⟩
end
end Go.Proofs.YtfcoebbblfcdoaaGreatDoor

/- All rules, one behind the other. -/
namespace Go.Proofs.YtfcoebbblfcdoaaGreatDoor
open Go.RowKit
set_option linter.unusedVariables false
set_option maxHeartbeats 1000000
set_option maxRecDepth 100000
def rfv (p : Nat) : Array Value := #[.func (.func 134) #[.pointer (some ⟨p, 0, none⟩)] #[], .func (.func 135) #[.pointer (some ⟨p, 0, none⟩)] #[], .func (.func 136) #[.pointer (some ⟨p, 0, none⟩)] #[], .func (.func 137) #[.pointer (some ⟨p, 0, none⟩)] #[]]
theorem ruleInfo : (Tryz.prog.info? 162).map (·.size) = some 4 := by kernel_rfl
theorem store_one {P : Program} {W : World} {g j : Nat} {cs : Array Value} {t : TypeId} {v : Value} (hv : v.oneCell' = true) (h : W.heap[g]? = some (.cells cs t (0, 0))) (hj : j < cs.size) : (store ⟨g, j, none⟩ v).run P W = .ok () (W.setCell ⟨g, j, none⟩ v) := by
 have hc : W.cell? ⟨g, j, none⟩ = some cs[j] := by simp [World.cell?, h, hj]
 have hf : W.frozen? ⟨g, j, none⟩ = false := by simp [World.frozen?, h]
 rw [run_store _ _ _ _ _ hv, hc, hf]
 rfl
theorem rules_any (p : Nat) (w : World) : Calls Tryz.prog 114 #[.pointer (some ⟨p, 0, none⟩)] w fun e w' => e = .returned (.agg (rfv p)) /\ KO w w' := by
 have h0 : (w.alloc (.cells #[.nilFunc, .nilFunc, .nilFunc, .nilFunc] 162)).heap[w.heap.size]? = some (.cells #[.nilFunc, .nilFunc, .nilFunc, .nilFunc] 162 (0, 0)) := heap_alloc_last w _
 have k0 : Below w.heap.size w (w.alloc (.cells #[.nilFunc, .nilFunc, .nilFunc, .nilFunc] 162)) := KO.alloc (KO.refl _) _
 have s1 := store_one (P := Tryz.prog) (j := 0) (v := .func (.func 134) #[.pointer (some ⟨p, 0, none⟩)] #[]) rfl h0 (by decide)
 have h1 := sset_heap (j := 0) h0 (.func (.func 134) #[.pointer (some ⟨p, 0, none⟩)] #[])
 have k1 := k0.setCell (p := ⟨w.heap.size, 0, none⟩) (Nat.le_refl _) (.func (.func 134) #[.pointer (some ⟨p, 0, none⟩)] #[])
 generalize (w.alloc (.cells #[.nilFunc, .nilFunc, .nilFunc, .nilFunc] 162)).setCell _ _ = W1 at s1 h1 k1
 have s2 := store_one (P := Tryz.prog) (j := 1) (v := .func (.func 135) #[.pointer (some ⟨p, 0, none⟩)] #[]) rfl h1 (by simp)
 have h2 := sset_heap (j := 1) h1 (.func (.func 135) #[.pointer (some ⟨p, 0, none⟩)] #[])
 have k2 := k1.setCell (p := ⟨w.heap.size, 1, none⟩) (Nat.le_refl _) (.func (.func 135) #[.pointer (some ⟨p, 0, none⟩)] #[])
 generalize W1.setCell _ _ = W2 at s2 h2 k2
 have s3 := store_one (P := Tryz.prog) (j := 2) (v := .func (.func 136) #[.pointer (some ⟨p, 0, none⟩)] #[]) rfl h2 (by simp)
 have h3 := sset_heap (j := 2) h2 (.func (.func 136) #[.pointer (some ⟨p, 0, none⟩)] #[])
 have k3 := k2.setCell (p := ⟨w.heap.size, 2, none⟩) (Nat.le_refl _) (.func (.func 136) #[.pointer (some ⟨p, 0, none⟩)] #[])
 generalize W2.setCell _ _ = W3 at s3 h3 k3
 have s4 := store_one (P := Tryz.prog) (j := 3) (v := .func (.func 137) #[.pointer (some ⟨p, 0, none⟩)] #[]) rfl h3 (by simp)
 have h4 := sset_heap (j := 3) h3 (.func (.func 137) #[.pointer (some ⟨p, 0, none⟩)] #[])
 have k4 := k3.setCell (p := ⟨w.heap.size, 3, none⟩) (Nat.le_refl _) (.func (.func 137) #[.pointer (some ⟨p, 0, none⟩)] #[])
 generalize W3.setCell _ _ = W4 at s4 h4 k4
 have HE := hide (run_loadVar_row (P := Tryz.prog) W4 w.heap.size 162 162 (rfv p) (0, 0) _ (show W4.heap[w.heap.size]? = some (Obj.cells (rfv p) 162 (0, 0)) from h4) Tryz.underlying162 rfl ruleInfo)
 have HK := hide k4
 clear h0 k0 h1 k1 h2 k2 h3 k3 h4 k4
 go_enter Tryz.func114, Tryz.ntmps114
 go_wp2
 exact bodyPost_ret (sresults1 Tryz.results114 _ _ _ w.heap.size _ rfl HE.out) rfl ⟨rfl, HK.out⟩
end Go.Proofs.YtfcoebbblfcdoaaGreatDoor

/- All rules of a sequence. -/
namespace Go.Proofs.YtfcoebbblfcdoaaGreatDoor
open Go.RowKit
set_option linter.unusedVariables false
set_option maxHeartbeats 1000000
set_option maxRecDepth 100000
theorem rule0 (p : Nat) (w : World) : (Instr.index 162 (.agg (rfv p)) (.int .i64 0)).run Tryz.prog w = .ok (.func (.func 134) #[.pointer (some ⟨p, 0, none⟩)] #[]) w := by kernel_rfl
theorem rule1 (p : Nat) (w : World) : (Instr.index 162 (.agg (rfv p)) (.int .i64 1)).run Tryz.prog w = .ok (.func (.func 135) #[.pointer (some ⟨p, 0, none⟩)] #[]) w := by kernel_rfl
theorem rule2 (p : Nat) (w : World) : (Instr.index 162 (.agg (rfv p)) (.int .i64 2)).run Tryz.prog w = .ok (.func (.func 136) #[.pointer (some ⟨p, 0, none⟩)] #[]) w := by kernel_rfl
theorem rule3 (p : Nat) (w : World) : (Instr.index 162 (.agg (rfv p)) (.int .i64 3)).run Tryz.prog w = .ok (.func (.func 137) #[.pointer (some ⟨p, 0, none⟩)] #[]) w := by kernel_rfl
theorem slevels_any {w : World} {p : Nat} {ap : Option Addr} {np cp : Nat} {lv so eo : Int} {an : Option Addr} {n cn : Nat} {at' : Option Addr} {ct : Nat} {tx ty : List Int} (h : SV w p ap np cp lv so eo an n cn at' ct tx ty) (hg : Rn.G tx ty lv so eo) (hf : ∀ x ∈ tx, (Lit.int .i32 x).wf = true) (hm : Marks w) (hn : n <= 100000) :
  Calls Tryz.prog 73 #[.pointer (some ⟨p, 0, none⟩)] w fun e w' => ∃ a1 c1, e = .returned (.tuple #[.slice a1 n c1, .int .i64 0]) /\ Row .i64 w' a1 n c1 (Rn.F13 tx ty lv so eo) /\ KO w w' /\ Fresh w a1 n := by
 have hty := h.rt.len
 have HRU := hide (fun W => rules_any p W)
 have HW := hide (fun W (hk : KO w W) => sweak_any (h.keep hk) at' n ct ty (h.rt.below hk) hn hg.so hg.ok)
 have HB := hide (fun W (hk : KO w W) a0 c0 (h0 : Row .i64 W a0 n c0 (Rn.T9 ty so)) => sbrackets_any (h.keep hk) a0 c0 _ h0 hn hf (hm.below hk) _ hg.ra (by rw [Rn.T10_len]; exact hty))
 have HN := hide (fun W (hk : KO w W) a0 c0 (h0 : Row .i64 W a0 n c0 (Rn.T10 Br.PP tx ty lv so)) => sneutral_any (h.keep hk) a0 n c0 _ h0 hg.wf10 hn _ hg.ar (by rw [Ne.RS_len, Rn.T10_len]; exact hty))
 have HI := hide (fun W (hk : KO w W) a0 c0 (h0 : Row .i64 W a0 n c0 (Ne.RS (Rn.T10 Br.PP tx ty lv so) lv so eo)) => simplicit_any (h.keep hk) a0 n c0 _ h0 hg.wf11 hn ⟨hg.lv0, by have := hg.lv1; omega⟩ (Rn.rs_sided _ _ _ _ hg.so))
 have q5 := h.c.2.2.2.2.2
 have r0 := rule0 p
 have r1 := rule1 p
 have r2 := rule2 p
 have r3 := rule3 p
 have HF13 := hide (show Rn.F13 tx ty lv so eo = Ne.LS (Ne.RS (Rn.T10 Br.PP tx ty lv so) lv so eo) lv from rfl)
 rw [HF13.out]
 generalize hL12 : Ne.LS (Ne.RS (Rn.T10 Br.PP tx ty lv so) lv so eo) lv = L12 at *
 generalize Ne.RS (Rn.T10 Br.PP tx ty lv so) lv so eo = L11 at *
 generalize Rn.T10 Br.PP tx ty lv so = L10 at *
 generalize Rn.T9 ty so = L9 at *
 clear h hg hf hm hty hL12 HF13
 go_enter Tryz.func73, Tryz.ntmps73
 go_wp2_with fail
 refine (HRU.out w).mono ?_
 rintro e w1 ⟨rfl, hk1⟩
 have HW1 := hide (HW.out w1 hk1)
 have HK1 := hide hk1
 clear hk1 HW HRU
 go_wp2
 refine wp_loop_rounds 5 ?_
 rw [rounds_succ]
 go_wp2_with fail
 refine HW1.out.mono ?_
 rintro e w2 ⟨a2, c2, rfl, hr2, hk2⟩
 have HK2 := hide (KO.on HK1.out hk2)
 have HB2 := hide (HB.out w2 HK2.out a2 c2 hr2)
 clear hr2 hk2 HW1 HB HK1
 go_wp2
 rw [rounds_succ]
 go_wp2_with fail
 refine HB2.out.mono ?_
 rintro e w3 ⟨a3, c3, rfl, hr3, hk3⟩
 have HK3 := hide (KO.on HK2.out hk3)
 have HN3 := hide (HN.out w3 HK3.out a3 c3 hr3)
 clear hr3 hk3 HB2 HN HK2
 go_wp2
 rw [rounds_succ]
 go_wp2_with fail
 refine HN3.out.mono ?_
 rintro e w4 ⟨a4, c4, rfl, hr4, hk4⟩
 have HK4 := hide (KO.on HK3.out hk4)
 have HI4 := hide (HI.out w4 HK4.out a4 c4 hr4)
 clear hr4 hk4 HN3 HI HK3
 go_wp2
 rw [rounds_succ]
 go_wp2_with fail
 refine HI4.out.mono ?_
 rintro e w5 ⟨a5, c5, rfl, hr5, hk5, hf5⟩
 have HR5 := hide (show Row .i64 w5 a5 n c5 L12 /\ KO w w5 /\ Fresh w a5 n from ⟨hr5, KO.on HK4.out hk5, fun h0 => by
  obtain ⟨g, e1, e2⟩ := hf5 h0
  exact ⟨g, e1, Nat.le_trans HK4.out.size e2⟩⟩)
 clear hr5 hk5 hf5 HI4 HK4
 go_wp2
 rw [rounds_succ]
 go_wp2
 go_ret2
 exact ⟨_, _, rfl, HR5.out.1, HR5.out.2.1, HR5.out.2.2⟩
end Go.Proofs.YtfcoebbblfcdoaaGreatDoor
