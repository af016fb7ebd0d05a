/- direction and give: their contracts. -/
import Derived.Test.YtkkmifpdhcdkpaaDoorBq
namespace Go.Proofs.YtkkmifpdhcdkpaaDoor
open Go.RowKit
set_option linter.unusedVariables false
set_option maxHeartbeats 1000000
set_option maxRecDepth 100000
namespace Br
theorem ah_take (T : List Int) (s : Int) (m : Nat) : ∀ k, k ≤ m → ah (T.take m) s k = ah T s k
  | 0, _ => rfl
  | k + 1, h => by
    have e : (T.take m).getD k 0 = T.getD k 0 := by simp only [List.getD_eq_getElem?_getD]; rw [List.getElem?_take_of_lt (by omega)]
    rw [ah, ah, e, ah_take T s m k (by omega)]
theorem ins_len {T : List Int} {p : Nat × Nat} (h1 : p.1 < p.2) (h2 : p.2 < T.length) : (ins T p).length = p.2 - (p.1 + 1) := by unfold ins; simp; omega
theorem ins_at {T : List Int} {p : Nat × Nat} {i : Nat} (h : i < p.2 - (p.1 + 1)) : (ins T p).getD i 0 = T.getD (p.1 + 1 + i) 0 := by
  unfold ins
  simp only [List.getD_eq_getElem?_getD]
  rw [List.getElem?_take_of_lt h, List.getElem?_drop]
theorem take_next {L : List Int} {i : Nat} (h : i < L.length) : L.take (i + 1) = L.take i ++ [L.getD i 0] := by
  rw [List.take_succ_eq_append_getElem h]; simp [List.getD, List.getElem?_eq_getElem h]
theorem has_next {L : List Int} {i : Nat} {s : Int} (h : i < L.length) : has (L.take (i + 1)) s = (has (L.take i) s || decide (sd (L.getD i 0) = s)) := by rw [take_next h, has_snoc]
theorem has_all {L : List Int} {i : Nat} {s : Int} (h : has (L.take i) s = true) : has L s = true := by
  unfold has at *
  rw [List.any_eq_true] at *
  obtain ⟨x, hx, hs⟩ := h
  exact ⟨x, List.mem_of_mem_take hx, hs⟩
/-- What has been seen of the other side. -/
def ot (L : List Int) (e : Int) : Int := if has L (3 - e) = true then 3 - e else 0
end Br
theorem direction_any (ao : Option Addr) (n cap : Nat) (T : List Int) (p : Nat × Nat) (e s : Int) (w : World) (h : Row .i64 w ao n cap T) (hn : n ≤ 17592186044416) (h1 : p.1 < p.2) (h2 : p.2 < n) (he : e = 1 ∨ e = 2) :
    Calls Tryd.prog 28 #[.slice ao n cap, .agg #[.int .i64 (p.1 : Int), .int .i64 (p.2 : Int)], .int .i64 e, .int .i64 s] w fun r w' => r = .returned (.int .i64 (Br.dr T p e s)) ∧ KO w w' := by
  obtain ⟨p, q⟩ := p
  simp only at h1 h2
  obtain ⟨ii, hii, _, _, _⟩ := info_parts infoInt
  have hcap := h.le
  have hmx := h.max
  unfold maxLen at hmx
  have hmid := run_mid Tryd.underlying23 hii cellsInt ao n cap (p + 1) q (by omega) (by omega)
  have hup := run_upto Tryd.underlying23 hii cellsInt ao n cap p (by omega)
  have HL := hide (Br.ins_len (T := T) (p := (p, q)) h1 (by rw [h.len]; exact h2))
  have HI : Hid (∀ i, i < q - (p + 1) → (Br.ins T (p, q)).getD i 0 = T.getD (p + 1 + i) 0) := hide fun i hi => Br.ins_at (p := (p, q)) hi
  have hk1 : KO w (w.alloc (.cells #[.int .i64 (p : Int), .int .i64 (q : Int)] 42)) := KO.alloc (KO.refl _) _
  have H := hide (h.below hk1)
  have HKO := hide hk1
  have HD : Hid (Br.dr T (p, q) e s = if Br.has (Br.ins T (p, q)) e = true then e else if Br.has (Br.ins T (p, q)) (3 - e) = true then (if Br.ah T s p = 3 - e then 3 - e else e) else 0) := hide rfl
  obtain ⟨g0, g1⟩ := cells2 w (.int .i64 (p : Int)) (.int .i64 (q : Int)) 42
  have hr := (h.below hk1).drop (j := p + 1) (by omega)
  have HRW := hide hr
  have HA := hide (fun W => ahead_any ao p cap (T.take p) s W)
  clear h hk1 hr hii
  have hpi : wrap64 ((p : Int) + 1) = ((p + 1 : Nat) : Int) := w64_nat (by omega) (by omega)
  generalize hW : w.alloc (.cells #[.int .i64 (p : Int), .int .i64 (q : Int)] 42) = W at *
  generalize hIN : Br.ins T (p, q) = I at *
  have hcast : ((p + 1 : Nat) : Int) = (p : Int) + 1 := by omega
  rw [hcast] at hmid
  generalize hm : q - (p + 1) = m at *
  go_enter Tryd.func28, Tryd.ntmps28
  go_wp2
  clear hmid hW g1
  go_loopw [9, 21] (fun s9 s21 wr => ∃ k : Nat, s9 = .int .i64 (Br.ot (I.take k) e) ∧ s21 = .int .i64 k ∧ k ≤ m ∧ Hid (Br.has (I.take k) e = false) ∧ W = wr) (fun s9 s21 _ => m - (intOf s21).toNat)
  case atStart => exact ⟨0, rfl, rfl, Nat.zero_le _, hide rfl, rfl⟩
  case round =>
    obtain ⟨k, rfl, rfl, hk, HH, rfl⟩ := hrel
    by_cases hlt : k < m
    · have hlt' : (k : Int) < (m : Int) := by omega
      obtain ⟨b, off, eb, hb, hc⟩ := HRW.out.cells (by omega)
      have gk := hc k (by rw [HRW.out.len]; omega)
      have eK : (T.drop (p + 1)).getD k 0 = I.getD k 0 := by rw [HI.out k hlt]; simp only [List.getD_eq_getElem?_getD]; rw [List.getElem?_drop]
      rw [eK] at gk
      rw [eb] at *
      have HS := hide (bside_any (I.getD k 0) W)
      have HN1 := hide (Br.has_next (s := e) (show k < I.length by rw [HL.out]; exact hlt))
      have HN2 := hide (Br.has_next (s := 3 - e) (show k < I.length by rw [HL.out]; exact hlt))
      clear hc hb eK
      by_cases hse : Br.sd (I.getD k 0) = e
      · have HX : Hid (Br.dr T (p, q) e s = e) := hide (by
          rw [HD.out, if_pos]
          refine Br.has_all (i := k + 1) ?_
          rw [HN1.out, decide_eq_true hse, Bool.or_true])
        rw [hse] at HS
        clear HN1 HN2 HH HD hse
        generalize I.getD k 0 = x at *
        generalize Br.ot (I.take k) e = o at *
        go_wp2_with (go_at_call 39; refine HS.out.mono ?_; rintro e w' ⟨rfl, rfl⟩)
        go_ret
        exact ⟨ret_int HX.out.symm, HKO.out⟩
      · have HF : Hid (Br.has (I.take (k + 1)) e = false) := hide (by rw [HN1.out, HH.out, decide_eq_false hse]; rfl)
        by_cases hs0 : Br.sd (I.getD k 0) = 0
        · have HO : Hid (Br.ot (I.take (k + 1)) e = Br.ot (I.take k) e) := hide (by unfold Br.ot; rw [HN2.out, hs0, decide_eq_false (by omega), Bool.or_false])
          rw [hs0] at HS
          have h0e : ((0 : Int) == e) = false := beq_false_of_ne (by omega)
          clear HN1 HN2 HH HD hse hs0
          generalize I.getD k 0 = x at *
          generalize Br.ot (I.take k) e = o at *
          go_wp2_with (go_at_call 39; refine HS.out.mono ?_; rintro e w' ⟨rfl, rfl⟩)
          go_roundw
          case rel => exact ⟨k + 1, by rw [HO.out], by go_num, by omega, HF, trivial⟩
          case measure => simp [intOf]; omega
        · have h3 : Br.sd (I.getD k 0) = 3 - e := by have := Br.sd_cases (I.getD k 0); omega
          have HO : Hid (Br.ot (I.take (k + 1)) e = 3 - e) := hide (by unfold Br.ot; rw [HN2.out, decide_eq_true h3, Bool.or_true]; rfl)
          rw [h3] at HS
          have h0e : ((3 - e : Int) == e) = false := beq_false_of_ne (by omega)
          have h00 : ((3 - e : Int) == 0) = false := beq_false_of_ne (by omega)
          clear HN1 HN2 HH HD hse hs0 h3
          generalize I.getD k 0 = x at *
          generalize Br.ot (I.take k) e = o at *
          generalize 3 - e = e3 at *
          go_wp2_with (go_at_call 39; refine HS.out.mono ?_; rintro e w' ⟨rfl, rfl⟩)
          go_roundw
          case rel => exact ⟨k + 1, by rw [HO.out], by go_num, by omega, HF, trivial⟩
          case measure => simp [intOf]; omega
    · obtain rfl : k = m := by omega
      have hne : ¬ ((k : Int) < (k : Int)) := by omega
      have eI : I.take k = I := List.take_of_length_le (by rw [HL.out]; exact Nat.le_refl _)
      rw [eI] at HH ⊢
      have HAA := hide (HA.out W (H.out.take (by omega)) (by omega))
      rw [Br.ah_take T s p p (Nat.le_refl _)] at HAA
      by_cases ho : Br.has I (3 - e) = true
      · have e1 : Br.ot I e = 3 - e := by unfold Br.ot; rw [if_pos ho]
        rw [e1]
        have h00 : ((3 - e : Int) == 0) = false := beq_false_of_ne (by omega)
        by_cases hah : Br.ah T s p = 3 - e
        · have HX : Hid (Br.dr T (p, q) e s = 3 - e) := hide (by rw [HD.out, HH.out, if_neg (by decide), if_pos ho, if_pos hah])
          rw [hah] at HAA
          clear HD HH e1 hah ho
          generalize 3 - e = e3 at *
          go_wp2_with (go_at_call 40; refine HAA.out.mono ?_; rintro e w' ⟨rfl, rfl⟩)
          go_ret
          exact ⟨ret_int HX.out.symm, HKO.out⟩
        · have HX : Hid (Br.dr T (p, q) e s = e) := hide (by rw [HD.out, HH.out, if_neg (by decide), if_pos ho, if_neg hah])
          have hab : ((3 - e : Int) == Br.ah T s p) = false := beq_false_of_ne (fun h => hah h.symm)
          clear HD HH e1 ho hah
          generalize 3 - e = e3 at *
          generalize Br.ah T s p = a at *
          go_wp2_with (go_at_call 40; refine HAA.out.mono ?_; rintro e w' ⟨rfl, rfl⟩)
          go_ret
          exact ⟨ret_int HX.out.symm, HKO.out⟩
      · have e1 : Br.ot I e = 0 := by unfold Br.ot; rw [if_neg ho]
        rw [e1]
        have HX : Hid (Br.dr T (p, q) e s = 0) := hide (by rw [HD.out, HH.out, if_neg (by decide), if_neg ho])
        clear HD HH e1 ho
        go_wp2
        go_ret
        exact ⟨ret_int HX.out.symm, HKO.out⟩
theorem set_other (w : World) (g k j : Nat) (v : Value) (h : ¬ j = g) : (w.setCell ⟨g, k, none⟩ v).heap[j]? = w.heap[j]? := by
  have h' : ¬ g = j := fun e => h e.symm
  unfold World.setCell
  simp [Array.getElem?_modify, h']
theorem give_any (g n cap : Nat) (T was : List Int) (aw : Option Addr) (cw : Nat) (p : Nat) (d : Int) (w0 w : World) (h : OW w0.heap.size g n cap T w0 w) (hw : Row .i64 w0 aw n cw was) (hp : p < n) (hn : n ≤ 17592186044416) :
    Calls Tryd.prog 29 #[.slice (some ⟨g, 0, none⟩) n cap, .slice aw n cw, .int .i64 (p : Int), .int .i64 d] w fun r w' => r = .returned (.tuple #[]) ∧ OW w0.heap.size g n cap (Br.give was T d p) w0 w' ∧ ∀ j, ¬ j = g → w'.heap[j]? = w.heap[j]? := by
  have hlt : (p : Int) < (n : Int) := by omega
  have HG : Hid (Br.give was T d p = Br.setR T d p (Br.nx was (p + 1))) := hide rfl
  have c0 := h.cell hp
  have f0 : ∀ j, w.frozen? ⟨g, j, none⟩ = false := by
    intro j
    rcases h.own.2 with ⟨h0, _⟩ | ⟨g', cap', cur, hv, _, hg, _⟩
    · cases h0
    · cases hv; simp [World.frozen?, hg]
  have f1 := f0 p
  have H1 := hide (h.set p d)
  rw [Br.setR_one] at H1
  have HW := hide hw
  have hwl := hw.len
  have HWL := hide hwl
  clear h hw f0
  generalize T.getD p 0 = x0 at *
  go_enter Tryd.func29, Tryd.ntmps29
  go_wp2
  have HU1 : Hid (∀ j, ¬ j = g → (w.setCell ⟨g, p, none⟩ (.int .i64 d)).heap[j]? = w.heap[j]?) := hide fun j hj => set_other w g p j _ hj
  generalize hW1 : w.setCell ⟨g, p, none⟩ (.int .i64 d) = W1 at *
  clear hW1
  go_loopw [8] (fun s8 wr => ∃ k : Nat, s8 = .int .i64 k ∧ p + 1 ≤ k ∧ k ≤ n ∧ Hid (Br.nx was (p + 1) = Br.nx was k) ∧ Hid (OW w0.heap.size g n cap (Br.setR T d p k) w0 wr) ∧ Hid (∀ j, ¬ j = g → wr.heap[j]? = w.heap[j]?)) (fun s8 _ => n - (intOf s8).toNat)
  case atStart => exact ⟨p + 1, by go_num, Nat.le_refl _, by omega, hide rfl, H1, HU1⟩
  case round =>
    obtain ⟨k, rfl, hk1, hk2, HN, HO, HU⟩ := hrel
    clear H1 HU1
    by_cases hkn : k < n
    · have hkn' : (k : Int) < (n : Int) := by omega
      obtain ⟨b, off, eb, hb, hc⟩ := (HW.out.below HO.out.bel).cells (by omega)
      have gk := hc k (by rw [HWL.out]; exact hkn)
      subst eb
      clear hc hb
      by_cases h9 : was.getD k 0 = 9
      · have HN2 : Hid (Br.nx was (p + 1) = Br.nx was (k + 1)) := hide (by rw [HN.out]; exact Br.nx_more (by rw [HWL.out]; exact hkn) h9)
        rw [h9] at gk
        have ck := HO.out.cell hkn
        have fk : wr.frozen? ⟨g, k, none⟩ = false := by
          rcases HO.out.own.2 with ⟨h0, _⟩ | ⟨g', cap', cur, hv, _, hg, _⟩
          · cases h0
          · cases hv; simp [World.frozen?, hg]
        have HO2 := hide (HO.out.set k d)
        have HU2 : Hid (∀ j, ¬ j = g → (wr.setCell ⟨g, k, none⟩ (.int .i64 d)).heap[j]? = w.heap[j]?) := hide fun j hj => (set_other wr g k j _ hj).trans (HU.out j hj)
        rw [Br.setR_snoc _ _ _ _ (by omega)] at HO2
        clear HN h9 HO HU
        generalize (Br.setR T d p k).getD k 0 = y at *
        go_wp2
        go_roundw
        case rel => exact ⟨k + 1, by go_num, by omega, by omega, HN2, HO2, HU2⟩
        case measure => simp [intOf]; omega
      · have HX : Hid (Br.give was T d p = Br.setR T d p k) := hide (by rw [HG.out, HN.out, Br.nx_stop (fun h => h9 h.2)])
        have h9b : (was.getD k 0 == 9) = false := beq_false_of_ne h9
        clear HN h9
        generalize was.getD k 0 = y at *
        go_wp2
        go_end0
        exact ⟨rfl, by rw [HX.out]; exact HO.out, HU.out⟩
    · obtain rfl : k = n := by omega
      have hne : ¬ ((k : Int) < (k : Int)) := by omega
      have HX : Hid (Br.give was T d p = Br.setR T d p k) := hide (by rw [HG.out, HN.out, Br.nx_stop (fun h => by have := h.1; have := HWL.out; omega)])
      clear HN
      go_wp2
      go_end0
      exact ⟨rfl, by rw [HX.out]; exact HO.out, HU.out⟩
end Go.Proofs.YtkkmifpdhcdkpaaDoor
