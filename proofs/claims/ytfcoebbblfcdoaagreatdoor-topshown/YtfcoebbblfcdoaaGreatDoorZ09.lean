import Derived.Test.YtfcoebbblfcdoaaGreatDoorZ08
/- The ends: endIsolate, endEmbedding. -/
namespace Go.Proofs.YtfcoebbblfcdoaaGreatDoor
open Go.RowKit
set_option linter.unusedVariables false
set_option maxHeartbeats 1000000
set_option maxRecDepth 100000
theorem pi_head {l : List Ex.Ent} (h : 0 < l.length) : ((Ex.hd l).is = true /\ Ex.pi l = l.tail) \/ ((Ex.hd l).is = false /\ Ex.pi l = Ex.pi l.tail /\ Ex.cn l.tail = Ex.cn l) := by
 cases l with
 | nil => simp at h
 | cons e r =>
  cases he : e.is with
  | true => left; simp [Ex.hd, Ex.pi, he]
  | false => right; simp [Ex.hd, Ex.pi, Ex.cn, he]
theorem cn_pos {l : List Ex.Ent} (h : 0 < Ex.cn l) : 0 < l.length := by
 have := Ex.cn_le l; omega
theorem endIsolate_any {B : Nat} {w : World} {p : Nat} {S : Ex.St} {g cap : Nat} (h : SA B w p S g cap) {b : Int} {k : Nat} (hok : Ex.Ok b S k) (hb0 : 0 <= b) (hb : b <= 1) (hk : k <= 17592186044416) :
  Calls Tryz.prog 106 #[.pointer (some ⟨p, 0, none⟩)] w fun e w' => e = .returned (.tuple #[]) /\ (∃ g' cap', SA B w' p (Ex.pdi S) g' cap') /\ Below B w w' := by
 have hkoi := hok.oi
 have hkva : S.va <= 126 := by have h1 := hok.va; have h2 := Ex.cn_le S.st; have h3 := hok.ch.len; have h4 := hok.ch.hi (by omega); have h5 := hok.ch.lo; omega
 by_cases h1 : 0 < S.oi
 ·have e1 : Ex.pdi S = ⟨S.st, S.oi - 1, S.oe, S.va⟩ := by unfold Ex.pdi; rw [if_pos h1]
  rw [e1]
  have h1' : (0 : Int) < (S.oi : Int) := by omega
  have c1 := h.c1
  have f1 := h.fz 1
  have HS := hide (h.setOi (z := (S.oi : Int) - 1) (k := S.oi - 1) (by omega))
  have hge := h.ge
  clear h hok e1
  go_enter Tryz.func106, Tryz.ntmps106
  go_wp2
  refine bodyPost_ret (results_none rfl _ _ _) rfl ?_
  exact ⟨rfl, ⟨g, cap, HS.out⟩, (Below.refl B w).setCell (p := ⟨p, 1, none⟩) hge _⟩
 ·have h1' : ¬ (0 : Int) < (S.oi : Int) := by omega
  have c1 := h.c1
  have c3 := h.c3
  by_cases h2 : S.va = 0
  ·have e1 : Ex.pdi S = S := by unfold Ex.pdi; rw [if_neg h1, if_pos h2]
   rw [e1]
   have HS := hide h
   rw [h2] at c3
   clear h hok e1
   go_enter Tryz.func106, Tryz.ntmps106
   go_wp2
   refine bodyPost_ret (results_none rfl _ _ _) rfl ?_
   exact ⟨rfl, ⟨g, cap, HS.out⟩, Below.refl B w⟩
  ·have e1 : Ex.pdi S = ⟨Ex.pi S.st, S.oi, 0, S.va - 1⟩ := by unfold Ex.pdi; rw [if_neg h1, if_neg h2]
   rw [e1]
   have e3 : ((S.va : Int) == 0) = false := beq_false_of_ne (by omega)
   have f2 := h.fz 2
   have c2 := h.c2
   have HS := hide (h.setOe (z := 0) (k := 0) rfl)
   have HB := hide ((Below.refl B w).setCell (p := ⟨p, 2, none⟩) h.ge (.int .i64 0))
   have hcn : 0 < Ex.cn S.st := by have := hok.va; omega
   have HC := hide hcn
   have hfi := field_is
   clear h hok e1 hcn
   obtain ⟨R, hR⟩ : ∃ R, Ex.pi S.st = R := ⟨_, rfl⟩
   rw [hR]
   have HR := hide hR
   clear hR
   go_enter Tryz.func106, Tryz.ntmps106
   go_wp2_with (go_at_call 125; fail)
   go_loopg [] S.st.length (fun k wr => ∃ l : List Ex.Ent, l.length = k /\ Hid (Ex.pi l = R) /\ Hid (0 < Ex.cn l) /\ Hid (SA B wr p ⟨l, S.oi, 0, S.va⟩ g cap) /\ Hid (Below B w wr))
   case atStart => exact ⟨S.st, rfl, HR, HC, HS, HB⟩
   case round =>
    obtain ⟨l, hl, hR, hC, hS, hB⟩ := hrel
    have hpos : 0 < l.length := cn_pos hC.out
    have HL := hide (last_any hS.out hpos)
    rcases pi_head hpos with ⟨hi, hp⟩ | ⟨hi, hp, hc⟩
    ·rw [hi] at HL
     rw [hR.out] at hp
     have HP := hide hp
     generalize (Ex.hd l).lv = lv at *
     generalize (Ex.hd l).ov = ov at *
     clear hp hi
     go_wp2_with fail
     refine HL.out.mono ?_
     rintro e w1 ⟨rfl, hb1⟩
     have hs1 := hS.out.below hb1
     have HD := hide (drop_any hs1 hpos)
     have HB1 := hide (hB.out.trans (hb1.mono hS.out.size))
     clear hs1 hb1 HL
     go_wp2_with fail
     refine HD.out.mono ?_
     rintro e w2 ⟨rfl, hs2, hb2⟩
     have c3' := hs2.c3
     have f3' := hs2.fz 3
     have HF := hide (hs2.setVa (z := (S.va : Int) - 1) (k := S.va - 1) (by omega))
     have HBF := hide ((HB1.out.trans hb2).setCell (p := ⟨p, 3, none⟩) hs2.ge (.int .i64 ((S.va : Int) - 1)))
     clear hs2 hb2 HD HB1
     go_wp2
     go_end0
     exact ⟨rfl, ⟨g, cap, by rw [HP.out]; exact HF.out⟩, HBF.out⟩
    ·rw [hi] at HL
     rw [hR.out] at hp
     have HP := hide hp.symm
     have HCN := hide (show 0 < Ex.cn l.tail from by rw [hc]; exact hC.out)
     generalize (Ex.hd l).lv = lv at *
     generalize (Ex.hd l).ov = ov at *
     clear hp hi hc
     go_wp2_with fail
     refine HL.out.mono ?_
     rintro e w1 ⟨rfl, hb1⟩
     have hs1 := hS.out.below hb1
     have HD := hide (drop_any hs1 hpos)
     have HB1 := hide (hB.out.trans (hb1.mono hS.out.size))
     clear hs1 hb1 HL
     go_wp2_with fail
     refine HD.out.mono ?_
     rintro e w2 ⟨rfl, hs2, hb2⟩
     have HF := hide hs2
     have HBF := hide (HB1.out.trans hb2)
     clear hs2 hb2 HD HB1
     go_wp2
     go_roundg l.tail.length
     case measure => rw [List.length_tail]; omega
     case rel => exact ⟨l.tail, rfl, HP, HCN, HF, HBF⟩
theorem ent_cells : Tryz.prog.cellsOf 148 = 3 /\ Tryz.prog.cellsOf 3 = 1 /\ Tryz.prog.cellsOf 4 = 1 := ⟨by kernel_rfl, by kernel_rfl, by kernel_rfl⟩
theorem ent_keys (x y : Int) (z : Bool) (hx : (Lit.int .i64 x).wf = true) (hy : (Lit.int .i64 y).wf = true) :
  Tryz.prog.keyLits 3 148 [.int .i64 x, .int .i64 y, .bool z] = some [.int .i64 x, .int .i64 y, .bool z] /\ (Value.agg #[.int .i64 x, .int .i64 y, .bool z]).formed Tryz.prog 148 = true := by
 constructor
 ·unfold Program.keyLits
  rw [Tryz.underlying148]
  simp [ent_cells.1, ent_cells.2.1, ent_cells.2.2, Program.keyLits, Tryz.underlying3, Tryz.underlying4, hx, hy]
 ·unfold Value.formed
  rw [Tryz.underlying148]
  simp [ent_cells.1]
theorem ent_eq (x y x' y' : Int) (z z' : Bool) (hx : (Lit.int .i64 x).wf = true) (hy : (Lit.int .i64 y).wf = true) (hx' : (Lit.int .i64 x').wf = true) (hy' : (Lit.int .i64 y').wf = true) (w : World) :
  (Op.equalIn 10000 148 (.agg #[.int .i64 x, .int .i64 y, .bool z]) (.agg #[.int .i64 x', .int .i64 y', .bool z'])).run Tryz.prog w = .ok (decide (x = x' /\ y = y' /\ z = z')) w := by
 obtain ⟨k1, f1⟩ := ent_keys x y z hx hy
 obtain ⟨k2, f2⟩ := ent_keys x' y' z' hx' hy'
 obtain ⟨r, hr, hiff⟩ := run_equalIn_deep (P := Tryz.prog) 9997 3 148 (by kernel_rfl) w 3 3 _ _ _ _ f1 f2 k1 k2
 have h2 : (r = true ↔ (x = x' /\ y = y' /\ z = z')) := hiff.trans (by simp)
 have h3 : r = decide (x = x' /\ y = y' /\ z = z') := by
  by_cases h : x = x' /\ y = y' /\ z = z'
  ·rw [decide_eq_true h]; exact h2.2 h
  ·rw [decide_eq_false h]
   cases hr' : r with
   | false => rfl
   | true => exact absurd (h2.1 hr') h
 rw [<- h3]
 exact hr
theorem endEmbedding_any {B : Nat} {w : World} {p : Nat} {S : Ex.St} {g cap : Nat} (h : SA B w p S g cap) {b : Int} {k : Nat} (hok : Ex.Ok b S k) (hb0 : 0 <= b) (hb : b <= 1) (hk : k <= 17592186044416) :
  Calls Tryz.prog 105 #[.pointer (some ⟨p, 0, none⟩)] w fun e w' => e = .returned (.tuple #[]) /\ (∃ g' cap', SA B w' p (Ex.pdf S) g' cap') /\ Below B w w' := by
 have hkoi := hok.oi
 have hkoe := hok.oe
 have c1 := h.c1
 by_cases h1 : 0 < S.oi
 ·have e1 : Ex.pdf S = S := by unfold Ex.pdf; rw [if_pos h1]
  rw [e1]
  have h1' : (0 : Int) < (S.oi : Int) := by omega
  have HS := hide h
  clear h hok e1
  go_enter Tryz.func105, Tryz.ntmps105
  go_wp2
  refine bodyPost_ret (results_none rfl _ _ _) rfl ?_
  exact ⟨rfl, ⟨g, cap, HS.out⟩, Below.refl B w⟩
 ·have h1' : ¬ (0 : Int) < (S.oi : Int) := by omega
  have c2 := h.c2
  by_cases h2 : 0 < S.oe
  ·have e1 : Ex.pdf S = ⟨S.st, S.oi, S.oe - 1, S.va⟩ := by unfold Ex.pdf; rw [if_neg h1, if_pos h2]
   rw [e1]
   have h2' : (0 : Int) < (S.oe : Int) := by omega
   have f2 := h.fz 2
   have HS := hide (h.setOe (z := (S.oe : Int) - 1) (k := S.oe - 1) (by omega))
   have hge := h.ge
   clear h hok e1
   go_enter Tryz.func105, Tryz.ntmps105
   go_wp2
   refine bodyPost_ret (results_none rfl _ _ _) rfl ?_
   exact ⟨rfl, ⟨g, cap, HS.out⟩, (Below.refl B w).setCell (p := ⟨p, 2, none⟩) hge _⟩
  ·have h2' : ¬ (0 : Int) < (S.oe : Int) := by omega
   have e0 : Ex.pdf S = if (Ex.hd S.st).is = false /\ 1 < S.st.length then ⟨S.st.tail, S.oi, S.oe, S.va⟩ else S := by unfold Ex.pdf; rw [if_neg h1, if_neg h2]
   have HA := hide h
   have HL := hide (last_any h hok.ch.pos)
   have hov := hok.ch.ov
   have hlo := hok.ch.lo
   have hhi := hok.ch.hi (by omega)
   have hpos := hok.ch.pos
   have HCH := hide hok.ch
   have heq := ent_eq (Ex.hd S.st).lv (Ex.hd S.st).ov b 0 (Ex.hd S.st).is false (WalkArith.wf_i64 (by omega)) (WalkArith.wf_i64 (by omega)) (WalkArith.wf_i64 (by omega)) (WalkArith.wf_i64 (by omega))
   cases his : (Ex.hd S.st).is with
   | true =>
    have e1 : Ex.pdf S = S := by rw [e0, if_neg (fun h => by rw [his] at h; cases h.1)]
    rw [e1]
    rw [his] at HL heq
    generalize (Ex.hd S.st).lv = lv at *
    generalize (Ex.hd S.st).ov = ov at *
    clear e0 e1 h hok his heq
    go_enter Tryz.func105, Tryz.ntmps105
    go_wp2_with fail
    refine HL.out.mono ?_
    rintro e w1 ⟨rfl, hb1⟩
    have HS := hide (HA.out.below hb1)
    have HB := hide (hb1.mono HA.out.size)
    clear hb1 HL HA
    go_wp2_with fail
    go_quiet (fail)
    go_wp2
    go_end0
    have hs2 := HS.out.below ((Below.alloc (Below.refl _ w1) (Nat.le_refl _) (.cells #[.int .i64 lv, .int .i64 ov, .bool true] 148)))
    exact ⟨rfl, ⟨g, cap, hs2.below (below_drewN _ _)⟩, (Below.alloc HB.out HS.out.size _).trans ((below_drewN _ nq).mono (by simp; have := HS.out.size; omega))⟩
   | false =>
    rw [his] at HL heq
    by_cases hlen : 1 < S.st.length
    ·have e1 : Ex.pdf S = ⟨S.st.tail, S.oi, S.oe, S.va⟩ := by rw [e0, if_pos ⟨his, hlen⟩]
     rw [e1]
     have hm := (hok.ch.more hlen).1
     have hdec : decide ((Ex.hd S.st).lv = b /\ (Ex.hd S.st).ov = 0 /\ false = false) = false := decide_eq_false (fun h => by omega)
     rw [hdec] at heq
     generalize (Ex.hd S.st).lv = lv at *
     generalize (Ex.hd S.st).ov = ov at *
     clear e0 e1 h hok his hdec
     go_enter Tryz.func105, Tryz.ntmps105
     go_wp2_with fail
     refine HL.out.mono ?_
     rintro e w1 ⟨rfl, hb1⟩
     have HS := hide (fun o : Obj => (HA.out.below hb1).below ((Below.alloc (Below.refl _ w1) (Nat.le_refl _) o)))
     have HB := hide (fun o : Obj => Below.alloc (hb1.mono HA.out.size) (HA.out.below hb1).size o)
     have HD := hide (fun (o : Obj) (nq : Nat) => drop_any ((HS.out o).below (below_drewN _ nq)) hpos)
     have c0 := fun o => (HS.out o).c0
     have t0 := fun o => ((HS.out o).bot HCH.out).1
     have t1 := fun o => ((HS.out o).bot HCH.out).2.1
     have t2 := fun o => ((HS.out o).bot HCH.out).2.2
     have hpi : (0 : Int) < (S.st.length : Int) := by omega
     clear hb1 HL HA
     go_wp2_with fail
     go_quiet (fail)
     go_wp2_with (go_at_call 126; refine (HD.out _ _).mono ?_; rintro e w3 ⟨rfl, hs3, hb3⟩)
     go_end0
     exact ⟨rfl, ⟨g, cap, hs3⟩, ((HB.out _).trans ((below_drewN _ _).mono (HS.out _).size)).trans hb3⟩
    ·have e1 : Ex.pdf S = S := by rw [e0, if_neg (fun h => hlen h.2)]
     rw [e1]
     have hone := hok.ch.only hlen
     have hdec : decide ((Ex.hd S.st).lv = b /\ (Ex.hd S.st).ov = 0 /\ false = false) = true := decide_eq_true (by rw [hone]; exact ⟨rfl, rfl, rfl⟩)
     rw [hdec] at heq
     generalize (Ex.hd S.st).lv = lv at *
     generalize (Ex.hd S.st).ov = ov at *
     clear e0 e1 h hok his hdec hone hlen
     go_enter Tryz.func105, Tryz.ntmps105
     go_wp2_with fail
     refine HL.out.mono ?_
     rintro e w1 ⟨rfl, hb1⟩
     have HS := hide (fun o : Obj => (HA.out.below hb1).below ((Below.alloc (Below.refl _ w1) (Nat.le_refl _) o)))
     have HB := hide (fun o : Obj => Below.alloc (hb1.mono HA.out.size) (HA.out.below hb1).size o)
     have c0 := fun o => (HS.out o).c0
     have t0 := fun o => ((HS.out o).bot HCH.out).1
     have t1 := fun o => ((HS.out o).bot HCH.out).2.1
     have t2 := fun o => ((HS.out o).bot HCH.out).2.2
     have hpi : (0 : Int) < (S.st.length : Int) := by omega
     clear hb1 HL HA
     go_wp2_with fail
     go_quiet (fail)
     go_wp2
     go_end0
     exact ⟨rfl, ⟨g, cap, (HS.out _).below (below_drewN _ _)⟩, (HB.out _).trans ((below_drewN _ _).mono (HS.out _).size)⟩
end Go.Proofs.YtfcoebbblfcdoaaGreatDoor

/- What Resolve keeps on its way; isParagraph. -/
namespace Go.Proofs.YtfcoebbblfcdoaaGreatDoor
open Go.RowKit
set_option linter.unusedVariables false
set_option maxHeartbeats 1000000
set_option maxRecDepth 100000
theorem isPara_any (ao : Option Addr) (n cap : Nat) (c : List Int) (w : World) (h : Row .i64 w ao n cap c) (hn : n * 8 <= 140737488351232) (F : Bool) (hF : F = true ↔ Ex.Formed c) :
  Calls Tryz.prog 102 #[.slice ao n cap] w fun e w' => e = .returned (.bool F) /\ w = w' := by
 have H := hide h
 have HL := hide h.len
 have HF := hide hF
 have hn2 : n <= 17592186044416 := by omega
 clear h hn hF
 go_enter Tryz.func102, Tryz.ntmps102
 go_wp2
 go_loopw [7] (fun s7 wr => ∃ k : Nat, k <= n /\ s7 = .int .i64 (k : Int) /\ Hid (∀ i, i < k -> 1 <= c.getD i 0 /\ c.getD i 0 <= 23 /\ (c.getD i 0 = 11 -> i + 1 = n)) /\ w = wr) (fun s7 _ => n - (intOf s7).toNat)
 case atStart => exact ⟨0, Nat.zero_le _, rfl, hide (fun i hi => by omega), rfl⟩
 case round =>
  obtain ⟨k, hk, rfl, hall, rfl⟩ := hrel
  by_cases hlt : k < n
  ·obtain ⟨b, off, rfl, hbl, hc⟩ := H.out.cells (by omega)
   have ck : w.cell? ⟨b, off + k, none⟩ = some (.int .i64 (c.getD k 0)) := hc k (by rw [HL.out]; exact hlt)
   have hin : (k : Int) < (n : Int) := by omega
   have HNO := hide (fun (hbad : ¬ (1 <= c.getD k 0 /\ c.getD k 0 <= 23 /\ (c.getD k 0 = 11 -> k + 1 = n))) => (show F = false from by
    cases hf : F with
    | false => rfl
    | true =>
     have h1 := HF.out.1 hf k (by rw [HL.out]; exact hlt)
     rw [HL.out] at h1
     exact absurd h1 hbad))
   have HYES := hide (fun (hgood : 1 <= c.getD k 0 /\ c.getD k 0 <= 23 /\ (c.getD k 0 = 11 -> k + 1 = n)) => (show ∀ i, i < k + 1 -> 1 <= c.getD i 0 /\ c.getD i 0 <= 23 /\ (c.getD i 0 = 11 -> i + 1 = n) from fun i hi => by
    by_cases hik : i = k
    ·subst hik; exact hgood
    ·exact hall.out i (by omega)))
   generalize c.getD k 0 = x at *
   clear hc hall
   by_cases h1 : x < 1
   ·have HE := hide (HNO.out (fun h => by omega))
    clear HNO HYES
    go_wp2
    go_ret
    exact ⟨ret_bool HE.out.symm, rfl⟩
   ·by_cases h2 : 23 < x
    ·have HE := hide (HNO.out (fun h => by omega))
     clear HNO HYES
     go_wp2
     go_ret
     exact ⟨ret_bool HE.out.symm, rfl⟩
    ·by_cases h3 : x = 11
     ·by_cases h4 : (k : Int) < (n : Int) - 1
      ·have HE := hide (HNO.out (fun h => by have := h.2.2 h3; omega))
       clear HNO HYES
       go_wp2
       go_ret
       exact ⟨ret_bool HE.out.symm, rfl⟩
      ·have HE := hide (HYES.out ⟨by omega, by omega, fun _ => by omega⟩)
       clear HNO HYES
       go_wp2
       go_roundw
       case rel => exact ⟨k + 1, by omega, by go_num, HE, trivial⟩
       case measure => simp [intOf]; omega
     ·have HE := hide (HYES.out ⟨by omega, by omega, fun h => absurd h h3⟩)
      have h3' : (x == 11) = false := beq_false_of_ne h3
      clear HNO HYES
      go_wp2
      go_roundw
      case rel => exact ⟨k + 1, by omega, by go_num, HE, trivial⟩
      case measure => simp [intOf]; omega
  ·obtain rfl : k = n := by omega
   have hne : ¬ ((k : Int) < (k : Int)) := by omega
   have HE := hide (show F = true from HF.out.2 (fun i hi => by rw [HL.out] at hi ⊢; exact hall.out i hi))
   clear hall
   go_wp2
   go_ret
   exact ⟨ret_bool HE.out.symm, rfl⟩
theorem made_ints (n : Nat) (hn : n * 8 <= 140737488351232) : ∃ cur : Array Value, cur.toList = (List.replicate n (0 : Int)).map (Value.int .i64) /\ ∀ W : World, (Instr.makeSlice 30 (.int .i64 (n : Int)) (.int .i64 (n : Int))).run Tryz.prog W = .ok (.slice (some ⟨W.heap.size, 0, none⟩) n n) (W.alloc (.cells cur 3)) := by
 obtain ⟨ii, hii, hy0, hy1, hy2⟩ := info_parts infoInt
 refine ⟨madeCells #[.int .i64 0] n, by simp [toList_madeCells_one], fun W => ?_⟩
 have h := run_make (P := Tryz.prog) W 30 3 ii _ Tryz.underlying30 hii hy0 .i64 .i64 (n : Int) (n : Int) (by omega) (Int.le_refl _) (by rw [hy2]; omega) (by omega)
 rw [h, hy1]
 simp [Value.cells]
structure RM (w : World) (B bl bt mb n : Nat) (M L T : List Int) (wr : World) : Prop where
 ol : wr.ownsRow w.heap.size 3 1 (.slice (some ⟨bl, 0, none⟩) n n) n (L.map (Value.int .i64))
 ot : wr.ownsRow w.heap.size 3 1 (.slice (some ⟨bt, 0, none⟩) n n) n (T.map (Value.int .i64))
 om : wr.ownsRow w.heap.size 3 1 (.slice (some ⟨mb, 0, none⟩) n n) n (M.map (Value.int .i64))
 lt : bl < B /\ bt < B /\ mb < B
 ne : ¬ bl = bt /\ ¬ bl = mb /\ ¬ bt = mb
 le : w.heap.size <= B
 bel : Below w.heap.size w wr
theorem owns_other {w : World} {base e n cap g g' j : Nat} {xs : List Value} {v : Value} (h : w.ownsRow base e 1 (.slice (some ⟨g, 0, none⟩) n cap) n xs) (hne : ¬ g = g') : (w.setCell ⟨g', j, none⟩ v).ownsRow base e 1 (.slice (some ⟨g, 0, none⟩) n cap) n xs := by
 refine ⟨h.1, ?_⟩
 rcases h.2 with ⟨h0, _⟩ | ⟨g2, cap2, cur, hv, hbs, hg, rest⟩
 ·cases h0
 ·cases hv
  refine .inr ⟨g, cap, cur, rfl, hbs, ?_, rest⟩
  rw [<- hg]
  have hne2 : ¬ g' = g := fun h => hne h.symm
  unfold World.setCell
  simp [Array.getElem?_modify, hne2]
section
variable {w : World} {B bl bt mb n : Nat} {M L T : List Int} {wr : World}
theorem RM.keep (h : RM w B bl bt mb n M L T wr) {w2 : World} (hb : Below B wr w2) : RM w B bl bt mb n M L T w2 :=
 ⟨owns_keep h.ol hb h.lt.1, owns_keep h.ot hb h.lt.2.1, owns_keep h.om hb h.lt.2.2, h.lt, h.ne, h.le, h.bel.trans (hb.mono h.le)⟩
theorem RM.set (h : RM w B bl bt mb n M L T wr) (k : Nat) (x y : Int) : RM w B bl bt mb n M (L.set k x) (T.set k y) ((wr.setCell ⟨bl, k, none⟩ (.int .i64 x)).setCell ⟨bt, k, none⟩ (.int .i64 y)) := by
 have hn := h.ne
 refine ⟨owns_other (owns_set h.ol k x) hn.1, owns_set (owns_other h.ot (fun h => hn.1 h.symm)) k y, owns_other (owns_other h.om (fun h => hn.2.1 h.symm)) (fun h => hn.2.2 h.symm), h.lt, h.ne, h.le, ?_⟩
 exact (h.bel.setCell (p := ⟨bl, k, none⟩) (h.ol.lt bl rfl).1 _).setCell (p := ⟨bt, k, none⟩) (h.ot.lt bt rfl).1 _
theorem RM.cl (h : RM w B bl bt mb n M L T wr) {k : Nat} (hk : k < n) : wr.cell? ⟨bl, k, none⟩ = some (.int .i64 (L.getD k 0)) /\ wr.frozen? ⟨bl, k, none⟩ = false := ⟨owns_cell h.ol k hk, h.ol.frozenAt k⟩
theorem RM.ct (h : RM w B bl bt mb n M L T wr) {k : Nat} (hk : k < n) : wr.cell? ⟨bt, k, none⟩ = some (.int .i64 (T.getD k 0)) /\ wr.frozen? ⟨bt, k, none⟩ = false := ⟨owns_cell h.ot k hk, h.ot.frozenAt k⟩
theorem RM.cm (h : RM w B bl bt mb n M L T wr) {k : Nat} (hk : k < n) : wr.cell? ⟨mb, k, none⟩ = some (.int .i64 (M.getD k 0)) := owns_cell h.om k hk
end
structure RV (w : World) (B p bl bt mb n : Nat) (b : Int) (c : List Int) (k : Nat) (wr : World) : Prop where
 rm : RM w B bl bt mb n (Iso.MT c) (Ex.PL (Ex.lev b (Ex.s0 b) c) n k) (Ex.PL (Ex.typ (Ex.s0 b) c) n k) wr
 sa : ∃ g cap, SA B wr p (Ex.at' (Ex.s0 b) c k) g cap
theorem RV.next {w : World} {B p bl bt mb n : Nat} {b : Int} {c : List Int} {k : Nat} {wr wf : World} {S : Ex.St}
  (hm : RM w B bl bt mb n (Iso.MT c) ((Ex.PL (Ex.lev b (Ex.s0 b) c) n k).set k (Ex.tl b S (c.getD k 0))) ((Ex.PL (Ex.typ (Ex.s0 b) c) n k).set k (Ex.ty S (c.getD k 0))) wr)
  (hS : Ex.mid (Ex.at' (Ex.s0 b) c k) (c.getD k 0) = S) (hb : Below B wr wf) (hs : ∃ g cap, SA B wf p (Ex.at' (Ex.s0 b) c (k + 1)) g cap) : RV w B p bl bt mb n b c (k + 1) wf := by
 subst hS
 have h := hm.keep hb
 refine ⟨?_, hs⟩
 rw [Ex.PL_set, Ex.PL_set]
 exact h
end Go.Proofs.YtfcoebbblfcdoaaGreatDoor
