import Derived.Test.YtfcoebbblfcdoaaGreatDoorZ39
import Derived.Test.YtfcoebbblfcdoaaGreatDoorZ11
import Derived.Deep.Cut
import Derived.Deep.RegionLaw
/- The document's sequence. -/
namespace Go.Proofs.YtfcoebbblfcdoaaGreatDoor
open Go.RowKit Go.Maps
set_option linter.unusedVariables false
set_option maxHeartbeats 2000000
set_option maxRecDepth 100000
theorem build_seq2 (ao : Option Addr) (n cap : Nat) (x : Int) (w : World) : (Instr.build 77 #[(0, .slice ao n cap), (1, .int .i64 x)]).run Tryz.prog w = .ok (.agg #[.slice ao n cap, .int .i64 x, .int .i64 0, .int .i64 0]) w := run_build w 77 _ _ (by kernel_rfl)
structure XB (w W1 P : World) (xb g L cp : Nat) (ps : List Nat) (x y z : Int) : Prop where
 hx : P.heap[xb]? = some (.cells #[.slice (some ⟨g, 0, none⟩) L cp, .int .i64 x, .int .i64 y, .int .i64 z] 77 (0, 0))
 hr : P.heap[w.heap.size]? = some (.cells #[.slice none 0 0, .int .i64 0, .int .i64 0, .int .i64 0] 77 (0, 0))
 own : P.ownsRow (w.heap.size + 1) 3 1 (.slice (some ⟨g, 0, none⟩) L cp) L ((Rn.zs ps).map (Value.int .i64))
 bel : Below w.heap.size w P
 le : w.heap.size + 1 <= xb
section
variable {w W1 P : World} {xb g L cp : Nat} {ps : List Nat} {x y z : Int}
theorem XB.ne (h : XB w W1 P xb g L cp ps x y z) : ¬ g = xb := by
 intro e
 rcases h.own.2 with ⟨q, _⟩ | ⟨a, c2, cur, e2, _, ha, _⟩
 ·cases q
 ·simp only [Value.slice.injEq, Option.some.injEq, Addr.mk.injEq, and_true] at e2
  obtain ⟨rfl, _⟩ := e2
  rw [e, h.hx] at ha
  simp at ha
theorem XB.drew (h : XB w W1 P xb g L cp ps x y z) : XB w W1 P.drew xb g L cp ps x y z := ⟨h.hx, h.hr, h.own.drew, h.bel.drew, h.le⟩
theorem XB.c (h : XB w W1 P xb g L cp ps x y z) : P.cell? ⟨xb, 0, none⟩ = some (.slice (some ⟨g, 0, none⟩) L cp) /\ P.cell? ⟨xb, 1, none⟩ = some (.int .i64 x) /\ P.cell? ⟨xb, 2, none⟩ = some (.int .i64 y) /\ P.cell? ⟨xb, 3, none⟩ = some (.int .i64 z) := by
 refine ⟨?_, ?_, ?_, ?_⟩ <;> simp [World.cell?, h.hx]
theorem XB.f (h : XB w W1 P xb g L cp ps x y z) (j : Nat) : P.frozen? ⟨xb, j, none⟩ = false := by simp [World.frozen?, h.hx]
theorem XB.rc (h : XB w W1 P xb g L cp ps x y z) : P.cell? ⟨w.heap.size, 0, none⟩ = some (.slice none 0 0) /\ P.cell? ⟨w.heap.size, 1, none⟩ = some (.int .i64 0) /\ P.cell? ⟨w.heap.size, 2, none⟩ = some (.int .i64 0) /\ P.cell? ⟨w.heap.size, 3, none⟩ = some (.int .i64 0) := by
 refine ⟨?_, ?_, ?_, ?_⟩ <;> simp [World.cell?, h.hr]
theorem XB.rf (h : XB w W1 P xb g L cp ps x y z) (j : Nat) : P.frozen? ⟨w.heap.size, j, none⟩ = false := by simp [World.frozen?, h.hr]
theorem XB.set (h : XB w W1 P xb g L cp ps x y z) (j : Nat) (v : Int) {y' z' : Int} (hj : (#[Value.slice (some ⟨g, 0, none⟩) L cp, .int .i64 x, .int .i64 y, .int .i64 z]).setIfInBounds j (.int .i64 v) = #[Value.slice (some ⟨g, 0, none⟩) L cp, .int .i64 x, .int .i64 y', .int .i64 z']) : XB w W1 (P.setCell ⟨xb, j, none⟩ (.int .i64 v)) xb g L cp ps x y' z' := by
 have hle := h.le
 refine ⟨by rw [sset_heap h.hx, hj], ?_, owns_other h.own h.ne, h.bel.setCell (p := ⟨xb, j, none⟩) (by show w.heap.size <= xb; omega) _, hle⟩
 rw [Below.heap_setCell _ _ _ _ (by show w.heap.size ≠ xb; omega)]
 exact h.hr
theorem XB.setY (h : XB w W1 P xb g L cp ps x y z) (v : Int) : XB w W1 (P.setCell ⟨xb, 2, none⟩ (.int .i64 v)) xb g L cp ps x v z := h.set 2 v rfl
theorem XB.setZ (h : XB w W1 P xb g L cp ps x y z) (v : Int) : XB w W1 (P.setCell ⟨xb, 3, none⟩ (.int .i64 v)) xb g L cp ps x y v := h.set 3 v rfl
end
section
variable {b : Int} {c : List Int} {ao al : Option Addr} {n cap cl : Nat} {w : World}
theorem ref_ahead (h : Row .i64 w al n cl (Ex.LV b c)) (hn : n <= 2000) {k : Nat} (hk : k < (Rn.RS (Ex.LV b c)).length) : ∃ z : Int, ∀ q, Calls Tryz.prog 88 #[.slice al n cl, .int .i64 (Rn.fst (Rn.RS (Ex.LV b c)) k : Int), .int .i64 (-1)] (w.drewN q) (fun e w' => e = .returned (.int .i64 z) /\ w.drewN q = w') /\ Calls Tryz.prog 91 #[.slice al n cl, .int .i64 z, .int .i64 b] (w.drewN q) (fun e w' => e = .returned (.int .i64 (Rn.ah b (Ex.LV b c) (Rn.RS (Ex.LV b c)) k)) /\ w.drewN q = w') := by
 have hR := Rn.runs_of (Ex.LV b c)
 generalize Rn.RS (Ex.LV b c) = rs at *
 have hf := Rn.fst_kept hR hk
 rw [h.len] at hf
 unfold Rn.ah
 by_cases hk0 : k = 0
 ·subst hk0
  exact ⟨-1, fun q => ⟨nb_dn_none (h.below (below_drewN w q)) hn hf.1 (fun z hz => kp_false (hR.before hk z hz)), reflevel_no al n cl b (w.drewN q)⟩⟩
 ·obtain ⟨k', rfl⟩ : ∃ k', k = k' + 1 := ⟨k - 1, by omega⟩
  rw [if_neg hk0, Nat.add_sub_cancel]
  obtain ⟨⟨a1, a2⟩, a3⟩ := hR.outer k' hk
  have hl := Rn.lst_kept hR (show k' < rs.length by omega)
  rw [h.len] at hl
  refine ⟨(Rn.lst rs k' : Int), fun q => ⟨nb_dn_some (h.below (below_drewN w q)) hn a1 hf.1 (kp_true hl.2.1) (fun z h1 h2 => kp_false (a2 z h1 h2)), ?_⟩⟩
  have := reflevel_at (h.below (below_drewN w q)) hl.1 b
  rw [hl.2.2] at this
  exact this
theorem ref_behind (h : Row .i64 w al n cl (Ex.LV b c)) (hn : n <= 2000) {l : Nat} (hl : l < (Rn.RS (Ex.LV b c)).length) : ∃ (z : Int), ∀ q, Calls Tryz.prog 88 #[.slice al n cl, .int .i64 (Rn.lst (Rn.RS (Ex.LV b c)) l : Int), .int .i64 1] (w.drewN q) (fun e w' => e = .returned (.int .i64 z) /\ w.drewN q = w') /\ Calls Tryz.prog 91 #[.slice al n cl, .int .i64 z, .int .i64 b] (w.drewN q) (fun e w' => e = .returned (.int .i64 (if l = (Rn.RS (Ex.LV b c)).length - 1 then b else Rn.lvl (Ex.LV b c) (Rn.RS (Ex.LV b c)) (l + 1))) /\ w.drewN q = w') := by
 have hR := Rn.runs_of (Ex.LV b c)
 generalize Rn.RS (Ex.LV b c) = rs at *
 have hlk := Rn.lst_kept hR hl
 rw [h.len] at hlk
 by_cases hl0 : l = rs.length - 1
 ·rw [if_pos hl0]
  exact ⟨-1, fun q => ⟨nb_up_none (h.below (below_drewN w q)) hn hlk.1 (fun z h1 h2 => kp_false (hR.after (by omega) z (by rw [<- hl0]; exact h1) (by rw [h.len]; exact h2))), reflevel_no al n cl b (w.drewN q)⟩⟩
 ·rw [if_neg hl0]
  obtain ⟨⟨a1, a2⟩, a3⟩ := hR.outer l (by omega)
  have hf := Rn.fst_kept hR (show l + 1 < rs.length by omega)
  rw [h.len] at hf
  exact ⟨(Rn.fst rs (l + 1) : Int), fun q => ⟨nb_up_some (h.below (below_drewN w q)) hn a1 hf.1 (kp_true hf.2) (fun z h1 h2 => kp_false (a2 z h1 h2)), reflevel_at (h.below (below_drewN w q)) hf.1 b⟩⟩
theorem refsequence_any (h : Row .i64 w ao n cap c) (h' : Row .i64 w al n cl (Ex.LV b c)) (hn : n <= 300) (hb : b = 0 \/ b = 1) (hF : Ex.Formed c) {k : Nat} (hk : k < (Rn.RS (Ex.LV b c)).length) :
  Calls Tryz.prog 59 #[.slice ao n cap, .slice al n cl, .int .i64 (Rn.fst (Rn.RS (Ex.LV b c)) k : Int), .int .i64 b] w fun e w' => ∃ g cp, e = .returned (.agg #[.slice (some ⟨g, 0, none⟩) (Rn.sq b (Ex.LV b c) (Iso.MT c) (Rn.RS (Ex.LV b c)) k).places.length cp, .int .i64 (Rn.sq b (Ex.LV b c) (Iso.MT c) (Rn.RS (Ex.LV b c)) k).lvl, .int .i64 (Rn.sq b (Ex.LV b c) (Iso.MT c) (Rn.RS (Ex.LV b c)) k).sos, .int .i64 (Rn.sq b (Ex.LV b c) (Iso.MT c) (Rn.RS (Ex.LV b c)) k).eos]) /\ w'.ownsRow w.heap.size 3 1 (.slice (some ⟨g, 0, none⟩) (Rn.sq b (Ex.LV b c) (Iso.MT c) (Rn.RS (Ex.LV b c)) k).places.length cp) (Rn.sq b (Ex.LV b c) (Iso.MT c) (Rn.RS (Ex.LV b c)) k).places.length ((Rn.zs (Rn.sq b (Ex.LV b c) (Iso.MT c) (Rn.RS (Ex.LV b c)) k).places).map (Value.int .i64)) /\ Below w.heap.size w w' := by
 obtain ⟨ii, hii, hy0, hy1, hy2⟩ := info_parts infoInt
 have HII := hide hii
 have HY0 := hide hy0
 have HY1 := hide hy1
 have HY2 := hide hy2
 have hlen := h.len
 have hR := Rn.runs_of (Ex.LV b c)
 have H := hide h
 have H' := hide h'
 have HRU := hide (fun (W : World) (hw : KO w W) j (hj : j < (Rn.RS (Ex.LV b c)).length) => rrun_any (h'.below hw) (by omega) hR hj)
 have HST := hide (fun x W => Starts_any x W)
 have HPA := hide (fun (W : World) (hw : KO w W) i (hi : i < n) => partner_any ao n cap c i W (h.below hw) (by omega) hi)
 have HAH := hide (fun (W : World) (hw : KO w W) => ref_ahead (h'.below hw) (by omega) hk)
 have HBH := hide (fun (W : World) (hw : KO w W) l (hl : l < (Rn.RS (Ex.LV b c)).length) => ref_behind (h'.below hw) (by omega) hl)
 have HSI := hide (fun x y W => refside_any x y W)
 have HUP := hide (Rn.fo_up hb hF)
 have HFS := hide (fun l j (hl : l < (Rn.RS (Ex.LV b c)).length) (hj : Rn.fo (Iso.MT c) (Rn.RS (Ex.LV b c)) l = some j) => Rn.fo_some hb hF hl hj)
 have HFN := hide (fun l (hl : l < (Rn.RS (Ex.LV b c)).length) (hj : Rn.fo (Iso.MT c) (Rn.RS (Ex.LV b c)) l = none) => Rn.fo_none hb hF hl hj)
 have HLK := hide (fun l (hl : l < (Rn.RS (Ex.LV b c)).length) => (show Rn.lst (Rn.RS (Ex.LV b c)) l < n from by have := (Rn.lst_kept hR hl).1; rw [Ex.LV_len] at this; omega))
 have HFK := hide (show Rn.fst (Rn.RS (Ex.LV b c)) k < n /\ (Ex.LV b c).getD (Rn.fst (Rn.RS (Ex.LV b c)) k) 0 = Rn.lvl (Ex.LV b c) (Rn.RS (Ex.LV b c)) k from ⟨by have := (Rn.fst_kept hR hk).1; rw [Ex.LV_len] at this; omega, rfl⟩)
 have HEN := hide (fun l (hl : l < (Rn.RS (Ex.LV b c)).length) => (show Rn.en (Iso.MT c) (Rn.RS (Ex.LV b c)) l = Iso.st (c.getD (Rn.lst (Rn.RS (Ex.LV b c)) l) 0) from Rn.en_iff (by have := (Rn.lst_kept hR hl).1; rw [Ex.LV_len] at this; omega)))
 have HRL := hide (fun j => (show (Rn.rn (Rn.RS (Ex.LV b c)) j).length <= 300 from by
  by_cases hj : j < (Rn.RS (Ex.LV b c)).length
  ·have h1 := Rn.R_row (Ex.LV b c) (Ex.LV b c).length j hj
   have e : Rn.rn (Rn.RS (Ex.LV b c)) j = Rn.rn (Rn.R (Ex.LV b c) (Ex.LV b c).length).2 j := rfl
   rw [e]
   rw [Ex.LV_len] at h1 ⊢
   omega
  ·have : Rn.rn (Rn.RS (Ex.LV b c)) j = [] := by simp [Rn.rn, List.getD, List.getElem?_eq_none (show (Rn.RS (Ex.LV b c)).length <= j by omega)]
   rw [this]; simp))
 have hNl : (Rn.RS (Ex.LV b c)).length <= n := by
  have h2 := Rn.R_len (Ex.LV b c) (Ex.LV b c).length
  rw [Ex.LV_len] at h2
  unfold Rn.RS
  rw [Ex.LV_len]
  omega
 have HPOS := hide (fun j (hj : j < (Rn.RS (Ex.LV b c)).length) => hR.pos j hj)
 have HLL := hide (fun l j (hl : l < j) (hj : j < (Rn.RS (Ex.LV b c)).length) => (show Rn.lst (Rn.RS (Ex.LV b c)) l < Rn.lst (Rn.RS (Ex.LV b c)) j from by
  have h1 := Rn.lst_fst hR j l hl hj
  have h2 := (Rn.run_le hR hj (hR.pos j hj)).2
  have e : (Rn.rn (Rn.RS (Ex.LV b c)) j).getD 0 0 = Rn.fst (Rn.RS (Ex.LV b c)) j := rfl
  omega))
 have HSQ : Hid (∀ t l, Rn.aft (Rn.fo (Iso.MT c) (Rn.RS (Ex.LV b c))) t k = some l -> Rn.fo (Iso.MT c) (Rn.RS (Ex.LV b c)) l = none -> Rn.sq b (Ex.LV b c) (Iso.MT c) (Rn.RS (Ex.LV b c)) k = ⟨Rn.plc (Rn.RS (Ex.LV b c)) (Rn.chn (Rn.fo (Iso.MT c) (Rn.RS (Ex.LV b c))) (t + 1) k), Rn.lvl (Ex.LV b c) (Rn.RS (Ex.LV b c)) k, Rn.sd (Rn.lvl (Ex.LV b c) (Rn.RS (Ex.LV b c)) k) (Rn.ah b (Ex.LV b c) (Rn.RS (Ex.LV b c)) k), Rn.sd (Rn.lvl (Ex.LV b c) (Rn.RS (Ex.LV b c)) k) (Rn.bh b (Ex.LV b c) (Iso.MT c) (Rn.RS (Ex.LV b c)) l)⟩) := hide fun t l ht hl => by
  have h1 := Rn.aft_ge (Rn.fo_up hb hF) t k l hk ht
  obtain ⟨e1, e2⟩ := Rn.chn_stop ht hl (c := (Rn.RS (Ex.LV b c)).length - k) (by omega)
  unfold Rn.sq
  rw [e1, e2]
 obtain ⟨sq, hsq⟩ : ∃ sq, Rn.sq b (Ex.LV b c) (Iso.MT c) (Rn.RS (Ex.LV b c)) k = sq := ⟨_, rfl⟩
 rw [hsq] at HSQ ⊢
 generalize Rn.RS (Ex.LV b c) = rs at *
 generalize Ex.LV b c = lv at *
 generalize Iso.MT c = mt at *
 generalize hfk : Rn.fst rs k = fk at *
 have hfkn : (fk : Int) < (n : Int) := by have := HFK.out.1; omega
 have hbq := build_seq2
 have HFE := hide hfk
 clear h h' hR hii hy0 hy1 hy2 hsq hfk hb hF
 obtain ⟨W1, hW1⟩ : ∃ W1, w.alloc (.cells #[.slice none 0 0, .int .i64 0, .int .i64 0, .int .i64 0] 77) = W1 := ⟨_, rfl⟩
 have hb1 : Below w.heap.size w W1 := by rw [<- hW1]; exact (Below.refl _ _).alloc (Nat.le_refl _) _
 have hnew : W1.heap[w.heap.size]? = some (.cells #[.slice none 0 0, .int .i64 0, .int .i64 0, .int .i64 0] 77 (0, 0)) := by rw [<- hW1]; exact heap_alloc_new _ _
 have hsz1 : W1.heap.size = w.heap.size + 1 := by rw [<- hW1]; simp
 have HB1 := hide hb1
 have HNEW := hide hnew
 have HSZ1 := hide hsz1
 have hru := HRU.out W1 hb1 k hk
 rw [HFE.out] at hru
 have HRU1 := hide hru
 clear hb1 hnew hsz1 hru
 go_enter Tryz.func59, Tryz.ntmps59
 go_wp2_with fail
 refine HRU1.out.mono ?_
 rintro e W2 ⟨g2, c2, rfl, how2, hb2⟩
 rw [HSZ1.out] at how2 hb2
 have hpk := HPOS.out k hk
 have ct2 : W2.cell? ⟨g2, (Rn.rn rs k).length - 1, none⟩ = some (.int .i64 (Rn.lst rs k : Int)) := by
  rw [owns_cell how2 ((Rn.rn rs k).length - 1) (by omega), Rn.zs_at _ _ (by omega)]
  rfl
 obtain ⟨m, hm⟩ : ∃ m, (Rn.rn rs k).length = m + 1 := ⟨(Rn.rn rs k).length - 1, by omega⟩
 have HOW2 := hide how2
 have hm3 := HRL.out k
 rw [hm] at ct2 hm3 ⊢
 rw [Nat.add_sub_cancel] at ct2
 have em : ((m + 1 : Nat) : Int) - 1 = (m : Int) := by omega
 have HM := hide hm
 have HB2 := hide hb2
 clear how2 hb2 HRU1 hm
 go_wp2
 go_loopw [9, 10] (fun s9 s10 wr => ∃ t l L : Nat, s10 = .int .i64 (Rn.lst rs l : Int) /\ Hid (Rn.aft (Rn.fo mt rs) t k = some l /\ L = (Rn.plc rs (Rn.chn (Rn.fo mt rs) (t + 1) k)).length /\ 0 < L /\ wr.ownsRow (w.heap.size + 1) 3 1 s9 L ((Rn.zs (Rn.plc rs (Rn.chn (Rn.fo mt rs) (t + 1) k))).map (Value.int .i64)) /\ Below (w.heap.size + 1) W1 wr)) (fun _ s10 _ => n - (intOf s10).toNat)
 case atStart =>
  have e1 : Rn.chn (Rn.fo mt rs) (0 + 1) k = [k] := by rw [Rn.chn_succ]; cases Rn.fo mt rs k <;> rfl
  refine ⟨0, k, m + 1, rfl, hide ⟨rfl, by rw [e1, Rn.plc_one, HM.out], by omega, ?_, HB2.out⟩⟩
  rw [e1, Rn.plc_one]
  have := HOW2.out
  rw [HM.out] at this
  exact this
 case round =>
  obtain ⟨t, l, L, rfl, hq⟩ := hrel
  obtain ⟨q1, q2, q3, q4, q5⟩ := hq.out
  obtain ⟨g, cp, rfl, hgB, hcp⟩ := owns_pos q4 q3
  have hal := Rn.aft_ge HUP.out t k l hk q1
  have hkw : KO w wr := Below.trans HB1.out (q5.mono (by omega))
  have hln := HLK.out l hal.2
  have hcl := Rn.chn_len (Rn.fo mt rs) (t + 1) k
  have hpl := Rn.plc_len (fun j => HRL.out j) (Rn.chn (Rn.fo mt rs) (t + 1) k)
  have hL : L <= 90300 := by
   have h1 : (Rn.chn (Rn.fo mt rs) (t + 1) k).length * 300 <= (t + 1) * 300 := Nat.mul_le_mul_right _ hcl
   omega
  obtain ⟨bb, off, rfl, hbl, hc⟩ := (H.out.below hkw).cells (by omega)
  have ce := hc (Rn.lst rs l) (by rw [hlen]; exact hln)
  have hln2 : (Rn.lst rs l : Int) < (n : Int) := by omega
  have HS := hide (fun W => HST.out (c.getD (Rn.lst rs l) 0) W)
  have HP := hide (HPA.out wr hkw _ hln)
  have HQ4 := hide q4
  have HQ5 := hide q5
  have HKW := hide hkw
  cases hfo : Rn.fo mt rs l with
  | some j =>
   obtain ⟨f1, f2, f3, f4, f5⟩ := HFS.out l j hal.2 hfo
   obtain ⟨g1, g2⟩ := Rn.chn_more q1 hfo
   have hru := HRU.out wr hkw j f2
   rw [f3] at HS
   rw [f4] at HP
   have HRUJ := hide hru
   have hpj := HPOS.out j f2
   have hlj := HRL.out j
   have hfj : (Rn.fst rs j : Int) < (n : Int) := by omega
   have HLJ := hide (HLL.out l j f1 f2)
   have hjn := HLK.out j f2
   have HG1 := hide g1
   have HG2 := hide g2
   have HQ2 := hide q2
   have HLAST := hide (show (Rn.rn rs j).getD ((Rn.rn rs j).length - 1) 0 = Rn.lst rs j from rfl)
   have hszw : w.heap.size + 1 <= wr.heap.size := by have := q5.size; have := HSZ1.out; omega
   obtain ⟨M, hmj⟩ : ∃ M, (Rn.rn rs j).length = M + 1 := ⟨(Rn.rn rs j).length - 1, by omega⟩
   rw [hmj] at HRUJ HLAST hlj
   rw [Nat.add_sub_cancel] at HLAST
   have HMJ := hide hmj
   have HRNJ := hide (show Rn.plc rs [j] = Rn.rn rs j from Rn.plc_one rs j)
   generalize c.getD (Rn.lst rs l) 0 = x at *
   generalize Rn.fst rs j = fj at *
   generalize hxs : Rn.plc rs (Rn.chn (Rn.fo mt rs) (t + 1) k) = xs at *
   have HXS := hide hxs
   clear hq q1 q2 q4 q5 hkw hru f3 f4 f5 g1 g2 hfo hc hcl hpl hmj hxs
   go_wp2_with (first
    | (go_at_call 51; refine (HS.out _).mono ?_; rintro e w' ⟨rfl, rfl⟩)
    | (go_at_call 52; refine HP.out.mono ?_; rintro e w' ⟨rfl, rfl⟩)
    | (go_at_call 89; refine HRUJ.out.mono ?_; rintro e w6 ⟨g6, c6, rfl, how6, hb6⟩; have hq6 := owns_below HQ4.out hb6; have hz6 := hb6.size)
    | (at_builtin; refine wpList_append_row w6 rfl (.tmp 34) (.tmp 39) 30 rfl (w.heap.size + 1) 3 ii (.int .i64 0) 8 Tryz.underlying30 HII.out HY0.out HY1.out HY2.out rfl (.slice (some ⟨g, 0, none⟩) L cp) L _ rfl hq6 .i64 (some ⟨g6, 0, none⟩) (M + 1) c6 (Rn.zs (Rn.rn rs j)) rfl (row_owned how6) (by omega) (by omega) (by omega) ?_; intro v7 w7 ho7 hb7; obtain ⟨g7, c7, rfl, _, _⟩ := owns_pos ho7 (by omega); have ct7 : w7.cell? ⟨g7, L + M, none⟩ = some (.int .i64 (Rn.lst rs j : Int)) := (by
      rw [<- List.map_append, <- Rn.zs_append] at ho7
      rw [owns_cell ho7 (L + M) (by omega), Rn.zs_at _ _ (by rw [List.length_append, <- HQ2.out, HMJ.out]; omega)]
      congr 3
      rw [<- HLAST.out]
      have := HQ2.out
      simp [List.getD, List.getElem?_append_right (show xs.length <= L + M by omega), show L + M - xs.length = M by omega])))
   refine ⟨⟨t + 1, j, L + (M + 1), rfl, hide ⟨HG2.out, ?_, by omega, ?_, ?_⟩⟩, ?_⟩
   ·rw [HG1.out, Rn.plc_append, HRNJ.out, HXS.out, List.length_append, HMJ.out, HQ2.out]
   ·rw [HG1.out, Rn.plc_append, HRNJ.out, HXS.out, Rn.zs_append, List.map_append]
    exact ho7
   ·exact (HQ5.out.trans (hb6.mono hszw)).trans hb7
   ·have := HLJ.out
    simp [intOf]
    omega
  | none =>
   have HFNl := hide (HFN.out l hal.2 hfo)
   have HSQl := hide (HSQ.out t l q1 hfo)
   have HENl := hide (HEN.out l hal.2)
   have HBHl := hide (fun (W : World) (hw : KO w W) => HBH.out W hw l hal.2)
   have HQLL := hide q2
   have cfk := (H'.out.below hkw).cells (by omega)
   obtain ⟨lb, loff, rfl, hlbl, hlc⟩ := cfk
   have cf := hlc fk (by have := H'.out.len; have := HFK.out.1; omega)
   rw [HFK.out.2] at cf
   have hszw : w.heap.size + 1 <= wr.heap.size := by have := q5.size; have := HSZ1.out; omega
   obtain ⟨X, hX⟩ : ∃ X, wr.alloc (.cells #[.slice (some ⟨g, 0, none⟩) L cp, .int .i64 (Rn.lvl lv rs k), .int .i64 0, .int .i64 0] 77) = X := ⟨_, rfl⟩
   have hxb : XB w W1 X wr.heap.size g L cp (Rn.plc rs (Rn.chn (Rn.fo mt rs) (t + 1) k)) (Rn.lvl lv rs k) 0 0 := by
    rw [<- hX]
    refine ⟨heap_alloc_new _ _, ?_, q4.alloc _, Below.alloc hkw hkw.size _, hszw⟩
    rw [Below.heap_alloc wr _ _ (by omega)]
    exact (q5.block _ (by omega)).trans HNEW.out
   have HXB := hide hxb
   obtain ⟨z1, hz1⟩ := HAH.out X hxb.bel
   have HN1 := hide (show Calls Tryz.prog 88 #[.slice (some ⟨lb, loff, none⟩) n cl, .int .i64 (fk : Int), .int .i64 (-1)] X.drew (fun e w' => e = .returned (.int .i64 z1) /\ X.drew = w') from (hz1 1).1)
   have HL1 := hide (show Calls Tryz.prog 91 #[.slice (some ⟨lb, loff, none⟩) n cl, .int .i64 z1, .int .i64 b] X.drew (fun e w' => e = .returned (.int .i64 (Rn.ah b lv rs k)) /\ X.drew = w') from (hz1 1).2)
   obtain ⟨x0, x1, x2, x3⟩ := hxb.c
   have xf2 := hxb.f 2
   obtain ⟨lx, hlx⟩ : ∃ lx, Rn.lvl lv rs k = lx := ⟨_, rfl⟩
   obtain ⟨ahv, hahv⟩ : ∃ ahv, Rn.ah b lv rs k = ahv := ⟨_, rfl⟩
   rw [hlx] at cf hX HXB HSQl x1
   rw [hahv] at HL1 HSQl
   obtain ⟨xb, hxe⟩ : ∃ xb, wr.heap.size = xb := ⟨_, rfl⟩
   rw [hxe] at HXB x0 x1 x2 x3 xf2
   have HXE := hide hX
   clear hz1 hxb hlc hc hcl hpl q1 q2 q4 q5 hq hfo hkw hlx hahv hX
   cases hst : Iso.st (c.getD (Rn.lst rs l) 0) with
   | true =>
    rw [hst] at HS HENl HFNl
    generalize hxev : c.getD (Rn.lst rs l) 0 = xe at *
    have HXEV := hide hxev
    clear hxev
    have hpn := HFNl.out rfl
    rw [hlen] at hpn
    rw [hpn] at HP
    clear hst
    go_upto_region 7 with (first
     | (go_at_call 51; refine (HS.out _).mono ?_; rintro e w' ⟨rfl, rfl⟩)
     | (go_at_call 52; refine HP.out.mono ?_; rintro e w' ⟨rfl, rfl⟩))
    rw [HXE.out]
    go_cut [62] from 53 to 62 (fun s62 wx => X.drew.setCell ⟨xb, 2, none⟩ (.int .i64 (Rn.sd lx ahv)) = wx)
    case first =>
     first | (go_region_law (first
      | (go_simp; go_at_call 88; refine HN1.out.mono ?_; rintro e w' ⟨rfl, rfl⟩; go_simp)
      | (go_simp; go_at_call 91; refine HL1.out.mono ?_; rintro e w' ⟨rfl, rfl⟩; go_simp)
      | (go_simp; go_at_call 90; refine (HSI.out _ _ _).mono ?_; rintro e w' ⟨rfl, rfl⟩; go_simp))) | fail
     all_goals
      go_wp2
      go_meet
      exact rfl
    have hxy : XB w W1 wc xb g L cp (Rn.plc rs (Rn.chn (Rn.fo mt rs) (t + 1) k)) lx (Rn.sd lx ahv) 0 := by rw [<- hcut]; exact HXB.out.drew.setY _
    clear hcut x0 x1 x2 x3 xf2 HN1 HL1 HXB
    obtain ⟨z2, hz2⟩ := HBHl.out wc hxy.bel
    obtain ⟨bv, hbv⟩ : ∃ bv, (if l = rs.length - 1 then b else Rn.lvl lv rs (l + 1)) = bv := ⟨_, rfl⟩
    rw [hbv] at hz2
    have HN2 := hide (show Calls Tryz.prog 88 #[.slice (some ⟨lb, loff, none⟩) n cl, .int .i64 (Rn.lst rs l : Int), .int .i64 1] wc.drew (fun e w' => e = .returned (.int .i64 z2) /\ wc.drew = w') from (hz2 1).1)
    have HL2 := hide (show Calls Tryz.prog 91 #[.slice (some ⟨lb, loff, none⟩) n cl, .int .i64 z2, .int .i64 b] wc.drew (fun e w' => e = .returned (.int .i64 bv) /\ wc.drew = w') from (hz2 1).2)
    obtain ⟨x0, x1, x2, x3⟩ := hxy.c
    have xf3 := hxy.f 3
    have HXY := hide hxy
    have HBV := hide hbv
    clear hz2 hxy hbv
    go_upto_region 8 with fail
    go_cut [72] from 63 to 72 (fun s72 wx => wc.drew.setCell ⟨xb, 3, none⟩ (.int .i64 (Rn.sd lx bv)) = wx)
    case first =>
     first | (go_region_law (first
      | (go_simp; go_at_call 88; refine HN2.out.mono ?_; rintro e w' ⟨rfl, rfl⟩; go_simp)
      | (go_simp; go_at_call 91; refine HL2.out.mono ?_; rintro e w' ⟨rfl, rfl⟩; go_simp)
      | (go_simp; go_at_call 90; refine (HSI.out _ _ _).mono ?_; rintro e w' ⟨rfl, rfl⟩; go_simp))) | fail
     all_goals
      go_wp2
      go_meet
      exact rfl
    have hxz : XB w W1 wc xb g L cp (Rn.plc rs (Rn.chn (Rn.fo mt rs) (t + 1) k)) lx (Rn.sd lx ahv) (Rn.sd lx bv) := by rw [<- hcut]; exact HXY.out.drew.setZ _
    clear hcut x0 x1 x2 x3 xf3 HN2 HL2 HXY
    obtain ⟨y0, y1, y2, y3⟩ := hxz.c
    have yf3 := hxz.f 3
    obtain ⟨r0, r1, r2, r3⟩ := hxz.rc
    have rf0 := hxz.rf 0
    have rf1 := hxz.rf 1
    have rf2 := hxz.rf 2
    have rf3 := hxz.rf 3
    have cend : wc.cell? ⟨bb, off + Rn.lst rs l, none⟩ = some (.int .i64 xe) := by
     have h1 := (H.out.below hxz.bel).cells (by omega)
     obtain ⟨b1, o1, e1, _, hc1⟩ := h1
     simp only [Option.some.injEq, Addr.mk.injEq, and_true] at e1
     obtain ⟨rfl, rfl⟩ := e1
     have := hc1 (Rn.lst rs l) (by rw [hlen]; exact hln)
     rw [HXEV.out] at this
     exact this
    have hxr : ¬ xb = w.heap.size := by have := hxz.le; omega
    have hxr2 : ¬ w.heap.size = xb := fun e => hxr e.symm
    have hqs := HSQl.out
    have hbh : Rn.bh b lv mt rs l = b := by unfold Rn.bh; rw [HENl.out]; split <;> rfl
    rw [hbh] at hqs
    have hxw := hxz.setZ (Rn.sd lx b)
    obtain ⟨P, hP⟩ : ∃ P, wc.setCell ⟨xb, 3, none⟩ (.int .i64 (Rn.sd lx b)) = P := ⟨_, rfl⟩
    rw [hP] at hxw
    obtain ⟨p0, p1, p2, p3⟩ := hxw.c
    obtain ⟨s0, s1, s2, s3⟩ := hxw.rc
    have sf0 := hxw.rf 0
    have sf1 := hxw.rf 1
    have sf2 := hxw.rf 2
    have sf3 := hxw.rf 3
    have HXW := hide hxw
    have HQS := hide hqs
    have hg := (hxw.own.lt g rfl).1
    clear hxz hqs hbh hxw
    go_wp2_with (first
     | (go_at_call 51; refine (HS.out _).mono ?_; rintro e w' ⟨rfl, rfl⟩)
     | (go_at_call 90; refine (HSI.out _ _ _).mono ?_; rintro e w' ⟨rfl, rfl⟩))
    have hne : ¬ g = w.heap.size := by omega
    have hqq := HXW.out.hr
    have hb9 := HXW.out.bel
    have hes := HQS.out
    subst hes
    exact bodyPost_ret (sresults1 Tryz.results59 _ _ _ w.heap.size _ rfl (seq_out hqq g L cp lx _ _)) rfl ⟨g, cp, by rw [<- HQLL.out], by
     rw [<- HQLL.out]
     exact owns_mono (owns_other (owns_other (owns_other (owns_other HXW.out.own hne) hne) hne) hne) (show w.heap.size <= w.heap.size + 1 by omega), (((hb9.setCell (p := ⟨w.heap.size, 0, none⟩) (Nat.le_refl _) _).setCell (p := ⟨w.heap.size, 1, none⟩) (Nat.le_refl _) _).setCell (p := ⟨w.heap.size, 2, none⟩) (Nat.le_refl _) _).setCell (p := ⟨w.heap.size, 3, none⟩) (Nat.le_refl _) _⟩
   | false =>
    rw [hst] at HS HENl HFNl
    generalize hxev : c.getD (Rn.lst rs l) 0 = xe at *
    have HXEV := hide hxev
    clear hxev
    skip
    clear hst
    go_upto_region 7 with (first
     | (go_at_call 51; refine (HS.out _).mono ?_; rintro e w' ⟨rfl, rfl⟩)
     | (go_at_call 52; refine HP.out.mono ?_; rintro e w' ⟨rfl, rfl⟩))
    rw [HXE.out]
    go_cut [62] from 53 to 62 (fun s62 wx => X.drew.setCell ⟨xb, 2, none⟩ (.int .i64 (Rn.sd lx ahv)) = wx)
    case first =>
     first | (go_region_law (first
      | (go_simp; go_at_call 88; refine HN1.out.mono ?_; rintro e w' ⟨rfl, rfl⟩; go_simp)
      | (go_simp; go_at_call 91; refine HL1.out.mono ?_; rintro e w' ⟨rfl, rfl⟩; go_simp)
      | (go_simp; go_at_call 90; refine (HSI.out _ _ _).mono ?_; rintro e w' ⟨rfl, rfl⟩; go_simp))) | fail
     all_goals
      go_wp2
      go_meet
      exact rfl
    have hxy : XB w W1 wc xb g L cp (Rn.plc rs (Rn.chn (Rn.fo mt rs) (t + 1) k)) lx (Rn.sd lx ahv) 0 := by rw [<- hcut]; exact HXB.out.drew.setY _
    clear hcut x0 x1 x2 x3 xf2 HN1 HL1 HXB
    obtain ⟨z2, hz2⟩ := HBHl.out wc hxy.bel
    obtain ⟨bv, hbv⟩ : ∃ bv, (if l = rs.length - 1 then b else Rn.lvl lv rs (l + 1)) = bv := ⟨_, rfl⟩
    rw [hbv] at hz2
    have HN2 := hide (show Calls Tryz.prog 88 #[.slice (some ⟨lb, loff, none⟩) n cl, .int .i64 (Rn.lst rs l : Int), .int .i64 1] wc.drew (fun e w' => e = .returned (.int .i64 z2) /\ wc.drew = w') from (hz2 1).1)
    have HL2 := hide (show Calls Tryz.prog 91 #[.slice (some ⟨lb, loff, none⟩) n cl, .int .i64 z2, .int .i64 b] wc.drew (fun e w' => e = .returned (.int .i64 bv) /\ wc.drew = w') from (hz2 1).2)
    obtain ⟨x0, x1, x2, x3⟩ := hxy.c
    have xf3 := hxy.f 3
    have HXY := hide hxy
    have HBV := hide hbv
    clear hz2 hxy hbv
    go_upto_region 8 with fail
    go_cut [72] from 63 to 72 (fun s72 wx => wc.drew.setCell ⟨xb, 3, none⟩ (.int .i64 (Rn.sd lx bv)) = wx)
    case first =>
     first | (go_region_law (first
      | (go_simp; go_at_call 88; refine HN2.out.mono ?_; rintro e w' ⟨rfl, rfl⟩; go_simp)
      | (go_simp; go_at_call 91; refine HL2.out.mono ?_; rintro e w' ⟨rfl, rfl⟩; go_simp)
      | (go_simp; go_at_call 90; refine (HSI.out _ _ _).mono ?_; rintro e w' ⟨rfl, rfl⟩; go_simp))) | fail
     all_goals
      go_wp2
      go_meet
      exact rfl
    have hxz : XB w W1 wc xb g L cp (Rn.plc rs (Rn.chn (Rn.fo mt rs) (t + 1) k)) lx (Rn.sd lx ahv) (Rn.sd lx bv) := by rw [<- hcut]; exact HXY.out.drew.setZ _
    clear hcut x0 x1 x2 x3 xf3 HN2 HL2 HXY
    obtain ⟨y0, y1, y2, y3⟩ := hxz.c
    have yf3 := hxz.f 3
    obtain ⟨r0, r1, r2, r3⟩ := hxz.rc
    have rf0 := hxz.rf 0
    have rf1 := hxz.rf 1
    have rf2 := hxz.rf 2
    have rf3 := hxz.rf 3
    have cend : wc.cell? ⟨bb, off + Rn.lst rs l, none⟩ = some (.int .i64 xe) := by
     have h1 := (H.out.below hxz.bel).cells (by omega)
     obtain ⟨b1, o1, e1, _, hc1⟩ := h1
     simp only [Option.some.injEq, Addr.mk.injEq, and_true] at e1
     obtain ⟨rfl, rfl⟩ := e1
     have := hc1 (Rn.lst rs l) (by rw [hlen]; exact hln)
     rw [HXEV.out] at this
     exact this
    have hxr : ¬ xb = w.heap.size := by have := hxz.le; omega
    have hxr2 : ¬ w.heap.size = xb := fun e => hxr e.symm
    have hqs := HSQl.out
    have hbh : Rn.bh b lv mt rs l = bv := by unfold Rn.bh; rw [HENl.out]; rw [<- HBV.out]; rfl
    rw [hbh] at hqs
    have HXW := hide hxz
    have HQS := hide hqs
    have hg := (hxz.own.lt g rfl).1
    clear hxz hqs hbh
    go_wp2_with (go_at_call 51; refine (HS.out _).mono ?_; rintro e w' ⟨rfl, rfl⟩)
    have hne : ¬ g = w.heap.size := by omega
    have hqq := HXW.out.hr
    have hb9 := HXW.out.bel
    have hes := HQS.out
    subst hes
    exact bodyPost_ret (sresults1 Tryz.results59 _ _ _ w.heap.size _ rfl (seq_out hqq g L cp lx _ _)) rfl ⟨g, cp, by rw [<- HQLL.out], by
     rw [<- HQLL.out]
     exact owns_mono (owns_other (owns_other (owns_other (owns_other HXW.out.own hne) hne) hne) hne) (show w.heap.size <= w.heap.size + 1 by omega), (((hb9.setCell (p := ⟨w.heap.size, 0, none⟩) (Nat.le_refl _) _).setCell (p := ⟨w.heap.size, 1, none⟩) (Nat.le_refl _) _).setCell (p := ⟨w.heap.size, 2, none⟩) (Nat.le_refl _) _).setCell (p := ⟨w.heap.size, 3, none⟩) (Nat.le_refl _) _⟩
end
end Go.Proofs.YtfcoebbblfcdoaaGreatDoor
