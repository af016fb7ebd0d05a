/- The ends: endIsolate, endEmbedding. -/
import Derived.Test.YthohbiklnknofaaMo
namespace Go.Proofs.Ythohbiklnknofaa
open Go.RowKit
set_option linter.unusedVariables false
set_option maxHeartbeats 1000000
set_option maxRecDepth 100000
theorem pi_head {l : List Ex.Ent} (h : 0 < l.length) : ((Ex.hd l).is = true ∧ Ex.pi l = l.tail) ∨ ((Ex.hd l).is = false ∧ Ex.pi l = Ex.pi l.tail ∧ Ex.cn l.tail = Ex.cn l) := by
  cases l with
  | nil => simp at h
  | cons e r =>
    cases he : e.is with
    | true => left; simp [Ex.hd, Ex.pi, he]
    | false => right; simp [Ex.hd, Ex.pi, Ex.cn, he]
theorem cn_pos {l : List Ex.Ent} (h : 0 < Ex.cn l) : 0 < l.length := by
  have := Ex.cn_le l; omega
theorem endIsolate_any {B : Nat} {w : World} {p : Nat} {S : Ex.St} {g cap : Nat} (h : SA B w p S g cap) {b : Int} {k : Nat} (hok : Ex.Ok b S k) (hb0 : 0 ≤ b) (hb : b ≤ 1) (hk : k ≤ 17592186044416) :
    Calls Try.prog 31 #[.pointer (some ⟨p, 0, none⟩)] w fun e w' => e = .returned (.tuple #[]) ∧ (∃ g' cap', SA B w' p (Ex.pdi S) g' cap') ∧ Below B w w' := by
  have hkoi := hok.oi
  have hkva : S.va ≤ 126 := by have h1 := hok.va; have h2 := Ex.cn_le S.st; have h3 := hok.ch.len; have h4 := hok.ch.hi (by omega); have h5 := hok.ch.lo; omega
  by_cases h1 : 0 < S.oi
  · have e1 : Ex.pdi S = ⟨S.st, S.oi - 1, S.oe, S.va⟩ := by unfold Ex.pdi; rw [if_pos h1]
    rw [e1]
    have h1' : (0 : Int) < (S.oi : Int) := by omega
    have c1 := h.c1
    have f1 := h.fz 1
    have HS := hide (h.setOi (z := (S.oi : Int) - 1) (k := S.oi - 1) (by omega))
    have hge := h.ge
    clear h hok e1
    go_enter Try.func31, Try.ntmps31
    go_wp2
    refine bodyPost_ret (results_none rfl _ _ _) rfl ?_
    exact ⟨rfl, ⟨g, cap, HS.out⟩, (Below.refl B w).setCell (p := ⟨p, 1, none⟩) hge _⟩
  · have h1' : ¬ (0 : Int) < (S.oi : Int) := by omega
    have c1 := h.c1
    have c3 := h.c3
    by_cases h2 : S.va = 0
    · have e1 : Ex.pdi S = S := by unfold Ex.pdi; rw [if_neg h1, if_pos h2]
      rw [e1]
      have HS := hide h
      rw [h2] at c3
      clear h hok e1
      go_enter Try.func31, Try.ntmps31
      go_wp2
      refine bodyPost_ret (results_none rfl _ _ _) rfl ?_
      exact ⟨rfl, ⟨g, cap, HS.out⟩, Below.refl B w⟩
    · have e1 : Ex.pdi S = ⟨Ex.pi S.st, S.oi, 0, S.va - 1⟩ := by unfold Ex.pdi; rw [if_neg h1, if_neg h2]
      rw [e1]
      have e3 : ((S.va : Int) == 0) = false := beq_false_of_ne (by omega)
      have f2 := h.fz 2
      have c2 := h.c2
      have HS := hide (h.setOe (z := 0) (k := 0) rfl)
      have HB := hide ((Below.refl B w).setCell (p := ⟨p, 2, none⟩) h.ge (.int .i64 0))
      have hcn : 0 < Ex.cn S.st := by have := hok.va; omega
      have HC := hide hcn
      have hfi := field_is
      clear h hok e1 hcn
      obtain ⟨R, hR⟩ : ∃ R, Ex.pi S.st = R := ⟨_, rfl⟩
      rw [hR]
      have HR := hide hR
      clear hR
      go_enter Try.func31, Try.ntmps31
      go_wp2_with (go_at_call 53; fail)
      go_loopg [] S.st.length (fun k wr => ∃ l : List Ex.Ent, l.length = k ∧ Hid (Ex.pi l = R) ∧ Hid (0 < Ex.cn l) ∧ Hid (SA B wr p ⟨l, S.oi, 0, S.va⟩ g cap) ∧ Hid (Below B w wr))
      case atStart => exact ⟨S.st, rfl, HR, HC, HS, HB⟩
      case round =>
        obtain ⟨l, hl, hR, hC, hS, hB⟩ := hrel
        have hpos : 0 < l.length := cn_pos hC.out
        have HL := hide (last_any hS.out hpos)
        rcases pi_head hpos with ⟨hi, hp⟩ | ⟨hi, hp, hc⟩
        · rw [hi] at HL
          rw [hR.out] at hp
          have HP := hide hp
          generalize (Ex.hd l).lv = lv at *
          generalize (Ex.hd l).ov = ov at *
          clear hp hi
          go_wp2_with fail
          refine HL.out.mono ?_
          rintro e w1 ⟨rfl, hb1⟩
          have hs1 := hS.out.below hb1
          have HD := hide (drop_any hs1 hpos)
          have HB1 := hide (hB.out.trans (hb1.mono hS.out.size))
          clear hs1 hb1 HL
          go_wp2_with fail
          refine HD.out.mono ?_
          rintro e w2 ⟨rfl, hs2, hb2⟩
          have c3' := hs2.c3
          have f3' := hs2.fz 3
          have HF := hide (hs2.setVa (z := (S.va : Int) - 1) (k := S.va - 1) (by omega))
          have HBF := hide ((HB1.out.trans hb2).setCell (p := ⟨p, 3, none⟩) hs2.ge (.int .i64 ((S.va : Int) - 1)))
          clear hs2 hb2 HD HB1
          go_wp2
          go_end0
          exact ⟨rfl, ⟨g, cap, by rw [HP.out]; exact HF.out⟩, HBF.out⟩
        · rw [hi] at HL
          rw [hR.out] at hp
          have HP := hide hp.symm
          have HCN := hide (show 0 < Ex.cn l.tail from by rw [hc]; exact hC.out)
          generalize (Ex.hd l).lv = lv at *
          generalize (Ex.hd l).ov = ov at *
          clear hp hi hc
          go_wp2_with fail
          refine HL.out.mono ?_
          rintro e w1 ⟨rfl, hb1⟩
          have hs1 := hS.out.below hb1
          have HD := hide (drop_any hs1 hpos)
          have HB1 := hide (hB.out.trans (hb1.mono hS.out.size))
          clear hs1 hb1 HL
          go_wp2_with fail
          refine HD.out.mono ?_
          rintro e w2 ⟨rfl, hs2, hb2⟩
          have HF := hide hs2
          have HBF := hide (HB1.out.trans hb2)
          clear hs2 hb2 HD HB1
          go_wp2
          go_roundg l.tail.length
          case measure => rw [List.length_tail]; omega
          case rel => exact ⟨l.tail, rfl, HP, HCN, HF, HBF⟩
theorem ent_cells : Try.prog.cellsOf 54 = 3 ∧ Try.prog.cellsOf 3 = 1 ∧ Try.prog.cellsOf 4 = 1 := ⟨by kernel_rfl, by kernel_rfl, by kernel_rfl⟩
theorem ent_keys (x y : Int) (z : Bool) (hx : (Lit.int .i64 x).wf = true) (hy : (Lit.int .i64 y).wf = true) :
    Try.prog.keyLits 3 54 [.int .i64 x, .int .i64 y, .bool z] = some [.int .i64 x, .int .i64 y, .bool z] ∧ (Value.agg #[.int .i64 x, .int .i64 y, .bool z]).formed Try.prog 54 = true := by
  constructor
  · unfold Program.keyLits
    rw [Try.underlying54]
    simp [ent_cells.1, ent_cells.2.1, ent_cells.2.2, Program.keyLits, Try.underlying3, Try.underlying4, hx, hy]
  · unfold Value.formed
    rw [Try.underlying54]
    simp [ent_cells.1]
theorem ent_eq (x y x' y' : Int) (z z' : Bool) (hx : (Lit.int .i64 x).wf = true) (hy : (Lit.int .i64 y).wf = true) (hx' : (Lit.int .i64 x').wf = true) (hy' : (Lit.int .i64 y').wf = true) (w : World) :
    (Op.equalIn 10000 54 (.agg #[.int .i64 x, .int .i64 y, .bool z]) (.agg #[.int .i64 x', .int .i64 y', .bool z'])).run Try.prog w = .ok (decide (x = x' ∧ y = y' ∧ z = z')) w := by
  obtain ⟨k1, f1⟩ := ent_keys x y z hx hy
  obtain ⟨k2, f2⟩ := ent_keys x' y' z' hx' hy'
  obtain ⟨r, hr, hiff⟩ := run_equalIn_deep (P := Try.prog) 9997 3 54 (by kernel_rfl) w 3 3 _ _ _ _ f1 f2 k1 k2
  have h2 : (r = true ↔ (x = x' ∧ y = y' ∧ z = z')) := hiff.trans (by simp)
  have h3 : r = decide (x = x' ∧ y = y' ∧ z = z') := by
    by_cases h : x = x' ∧ y = y' ∧ z = z'
    · rw [decide_eq_true h]; exact h2.2 h
    · rw [decide_eq_false h]
      cases hr' : r with
      | false => rfl
      | true => exact absurd (h2.1 hr') h
  rw [← h3]
  exact hr
theorem endEmbedding_any {B : Nat} {w : World} {p : Nat} {S : Ex.St} {g cap : Nat} (h : SA B w p S g cap) {b : Int} {k : Nat} (hok : Ex.Ok b S k) (hb0 : 0 ≤ b) (hb : b ≤ 1) (hk : k ≤ 17592186044416) :
    Calls Try.prog 30 #[.pointer (some ⟨p, 0, none⟩)] w fun e w' => e = .returned (.tuple #[]) ∧ (∃ g' cap', SA B w' p (Ex.pdf S) g' cap') ∧ Below B w w' := by
  have hkoi := hok.oi
  have hkoe := hok.oe
  have c1 := h.c1
  by_cases h1 : 0 < S.oi
  · have e1 : Ex.pdf S = S := by unfold Ex.pdf; rw [if_pos h1]
    rw [e1]
    have h1' : (0 : Int) < (S.oi : Int) := by omega
    have HS := hide h
    clear h hok e1
    go_enter Try.func30, Try.ntmps30
    go_wp2
    refine bodyPost_ret (results_none rfl _ _ _) rfl ?_
    exact ⟨rfl, ⟨g, cap, HS.out⟩, Below.refl B w⟩
  · have h1' : ¬ (0 : Int) < (S.oi : Int) := by omega
    have c2 := h.c2
    by_cases h2 : 0 < S.oe
    · have e1 : Ex.pdf S = ⟨S.st, S.oi, S.oe - 1, S.va⟩ := by unfold Ex.pdf; rw [if_neg h1, if_pos h2]
      rw [e1]
      have h2' : (0 : Int) < (S.oe : Int) := by omega
      have f2 := h.fz 2
      have HS := hide (h.setOe (z := (S.oe : Int) - 1) (k := S.oe - 1) (by omega))
      have hge := h.ge
      clear h hok e1
      go_enter Try.func30, Try.ntmps30
      go_wp2
      refine bodyPost_ret (results_none rfl _ _ _) rfl ?_
      exact ⟨rfl, ⟨g, cap, HS.out⟩, (Below.refl B w).setCell (p := ⟨p, 2, none⟩) hge _⟩
    · have h2' : ¬ (0 : Int) < (S.oe : Int) := by omega
      have e0 : Ex.pdf S = if (Ex.hd S.st).is = false ∧ 1 < S.st.length then ⟨S.st.tail, S.oi, S.oe, S.va⟩ else S := by unfold Ex.pdf; rw [if_neg h1, if_neg h2]
      have HA := hide h
      have HL := hide (last_any h hok.ch.pos)
      have hov := hok.ch.ov
      have hlo := hok.ch.lo
      have hhi := hok.ch.hi (by omega)
      have hpos := hok.ch.pos
      have HCH := hide hok.ch
      have heq := ent_eq (Ex.hd S.st).lv (Ex.hd S.st).ov b 0 (Ex.hd S.st).is false (WalkArith.wf_i64 (by omega)) (WalkArith.wf_i64 (by omega)) (WalkArith.wf_i64 (by omega)) (WalkArith.wf_i64 (by omega))
      cases his : (Ex.hd S.st).is with
      | true =>
        have e1 : Ex.pdf S = S := by rw [e0, if_neg (fun h => by rw [his] at h; cases h.1)]
        rw [e1]
        rw [his] at HL heq
        generalize (Ex.hd S.st).lv = lv at *
        generalize (Ex.hd S.st).ov = ov at *
        clear e0 e1 h hok his heq
        go_enter Try.func30, Try.ntmps30
        go_wp2_with fail
        refine HL.out.mono ?_
        rintro e w1 ⟨rfl, hb1⟩
        have HS := hide (HA.out.below hb1)
        have HB := hide (hb1.mono HA.out.size)
        clear hb1 HL HA
        go_wp2_with fail
        go_quiet (fail)
        go_wp2
        go_end0
        have hs2 := HS.out.below ((Below.alloc (Below.refl _ w1) (Nat.le_refl _) (.cells #[.int .i64 lv, .int .i64 ov, .bool true] 54)))
        exact ⟨rfl, ⟨g, cap, hs2.below (below_drewN _ _)⟩, (Below.alloc HB.out HS.out.size _).trans ((below_drewN _ nq).mono (by simp; have := HS.out.size; omega))⟩
      | false =>
        rw [his] at HL heq
        by_cases hlen : 1 < S.st.length
        · have e1 : Ex.pdf S = ⟨S.st.tail, S.oi, S.oe, S.va⟩ := by rw [e0, if_pos ⟨his, hlen⟩]
          rw [e1]
          have hm := (hok.ch.more hlen).1
          have hdec : decide ((Ex.hd S.st).lv = b ∧ (Ex.hd S.st).ov = 0 ∧ false = false) = false := decide_eq_false (fun h => by omega)
          rw [hdec] at heq
          generalize (Ex.hd S.st).lv = lv at *
          generalize (Ex.hd S.st).ov = ov at *
          clear e0 e1 h hok his hdec
          go_enter Try.func30, Try.ntmps30
          go_wp2_with fail
          refine HL.out.mono ?_
          rintro e w1 ⟨rfl, hb1⟩
          have HS := hide (fun o : Obj => (HA.out.below hb1).below ((Below.alloc (Below.refl _ w1) (Nat.le_refl _) o)))
          have HB := hide (fun o : Obj => Below.alloc (hb1.mono HA.out.size) (HA.out.below hb1).size o)
          have HD := hide (fun (o : Obj) (nq : Nat) => drop_any ((HS.out o).below (below_drewN _ nq)) hpos)
          have c0 := fun o => (HS.out o).c0
          have t0 := fun o => ((HS.out o).bot HCH.out).1
          have t1 := fun o => ((HS.out o).bot HCH.out).2.1
          have t2 := fun o => ((HS.out o).bot HCH.out).2.2
          have hpi : (0 : Int) < (S.st.length : Int) := by omega
          clear hb1 HL HA
          go_wp2_with fail
          go_quiet (fail)
          go_wp2_with (go_at_call 54; refine (HD.out _ _).mono ?_; rintro e w3 ⟨rfl, hs3, hb3⟩)
          go_end0
          exact ⟨rfl, ⟨g, cap, hs3⟩, ((HB.out _).trans ((below_drewN _ _).mono (HS.out _).size)).trans hb3⟩
        · have e1 : Ex.pdf S = S := by rw [e0, if_neg (fun h => hlen h.2)]
          rw [e1]
          have hone := hok.ch.only hlen
          have hdec : decide ((Ex.hd S.st).lv = b ∧ (Ex.hd S.st).ov = 0 ∧ false = false) = true := decide_eq_true (by rw [hone]; exact ⟨rfl, rfl, rfl⟩)
          rw [hdec] at heq
          generalize (Ex.hd S.st).lv = lv at *
          generalize (Ex.hd S.st).ov = ov at *
          clear e0 e1 h hok his hdec hone hlen
          go_enter Try.func30, Try.ntmps30
          go_wp2_with fail
          refine HL.out.mono ?_
          rintro e w1 ⟨rfl, hb1⟩
          have HS := hide (fun o : Obj => (HA.out.below hb1).below ((Below.alloc (Below.refl _ w1) (Nat.le_refl _) o)))
          have HB := hide (fun o : Obj => Below.alloc (hb1.mono HA.out.size) (HA.out.below hb1).size o)
          have c0 := fun o => (HS.out o).c0
          have t0 := fun o => ((HS.out o).bot HCH.out).1
          have t1 := fun o => ((HS.out o).bot HCH.out).2.1
          have t2 := fun o => ((HS.out o).bot HCH.out).2.2
          have hpi : (0 : Int) < (S.st.length : Int) := by omega
          clear hb1 HL HA
          go_wp2_with fail
          go_quiet (fail)
          go_wp2
          go_end0
          exact ⟨rfl, ⟨g, cap, (HS.out _).below (below_drewN _ _)⟩, (HB.out _).trans ((below_drewN _ _).mono (HS.out _).size)⟩
end Go.Proofs.Ythohbiklnknofaa
