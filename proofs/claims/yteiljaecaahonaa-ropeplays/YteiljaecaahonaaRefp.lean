/- The document's separators and paragraphs. -/
import Derived.Test.YteiljaecaahonaaRefc
import Derived.Test.YteiljaecaahonaaKeep
import Derived.Test.YteiljaecaahonaaSp
import Derived.Test.YteiljaecaahonaaPars
import Derived.Test.YteiljaecaahonaaSlices
namespace Go.Proofs.Yteiljaecaahonaa
open Go.RowKit
set_option linter.unusedVariables false
set_option maxHeartbeats 1000000
set_option maxRecDepth 100000
theorem rbreak_any (r : Int) (w : World) (hr : (Lit.int .i32 r).wf = true) :
    Calls Try.prog 55 #[.int .i32 r] w fun e w' => e = .returned (.bool (Ucd.cls r == 11)) ∧ Below w.heap.size w w' := by
  have HC := hide (rclass_any r w hr)
  generalize Ucd.cls r = cx at *
  clear hr
  go_enter Try.func55, Try.ntmps55
  go_wp2_with fail
  refine HC.out.mono ?_
  rintro e w1 ⟨rfl, hb1⟩
  go_wp2
  go_ret
  exact ⟨rfl, hb1⟩
theorem getD_wf {l : List Int} (hf : ∀ x ∈ l, (Lit.int .i32 x).wf = true) {i : Nat} (h : i < l.length) : (Lit.int .i32 (l.getD i 0)).wf = true :=
  hf _ (by rw [show l.getD i 0 = l[i] from by simp [List.getD, List.getElem?_eq_getElem h]]; exact List.getElem_mem _)
theorem rbreaks_any (ao : Option Addr) (n cap : Nat) (l : List Int) (w : World) (h : Row .i32 w ao n cap l) (hf : ∀ x ∈ l, (Lit.int .i32 x).wf = true) (hn : n ≤ 4611686018427387904) :
    Calls Try.prog 36 #[.slice ao n cap] w fun e w' => e = .returned (.int .i64 (seps l : Int)) ∧ Below w.heap.size w w' := by
  have H := hide h
  have HL := hide h.len
  have HF := hide hf
  clear h hf
  go_enter Try.func36, Try.ntmps36
  go_wp2_with fail
  go_loopw [3, 4] (fun s3 s4 wr => ∃ i : Nat, i ≤ n ∧ s4 = .int .i64 (i : Int) ∧ s3 = .int .i64 (seps (l.take i) : Int) ∧ Hid (KO w wr)) (fun _ s4 _ => n - (intOf s4).toNat)
  case atStart => exact ⟨0, Nat.zero_le _, rfl, rfl, KO.refl _⟩
  case round =>
    obtain ⟨i, hi, rfl, rfl, hk⟩ := hrel
    by_cases hlt : i < n
    · have hil : i < l.length := by rw [HL.out]; exact hlt
      obtain ⟨b, off, rfl, hbl, hc⟩ := H.out.cells (by omega)
      have ci : wr.cell? ⟨b, off + i, none⟩ = some (.int .i32 (l.getD i 0)) := (Below.cell hk.out (by exact hbl)).trans (hc i hil)
      have HB := hide (rbreak_any (l.getD i 0) wr (getD_wf HF.out hil))
      have HSN := hide (seps_snoc l i hil)
      have hsn : seps (l.take i) ≤ i := by have := seps_le (l.take i); rw [List.length_take] at this; omega
      have hin : (i : Int) < (n : Int) := by omega
      obtain ⟨k, hkk⟩ : ∃ k, seps (l.take i) = k := ⟨_, rfl⟩
      obtain ⟨cx, hcx⟩ : ∃ cx, Ucd.cls (l.getD i 0) = cx := ⟨_, rfl⟩
      rw [hkk] at HSN hsn ⊢
      rw [hcx] at HB
      have hsep : (cx = 11 ∧ (cx == 11) = true ∧ sep (l.getD i 0) = 1) ∨ ((cx == 11) = false ∧ sep (l.getD i 0) = 0) := by
        by_cases h : cx = 11
        · exact .inl ⟨h, beq_iff_eq.2 h, sep_yes (hcx.trans h)⟩
        · exact .inr ⟨beq_false_of_ne h, sep_no (by rw [hcx]; exact h)⟩
      clear hc hil hkk hcx
      generalize l.getD i 0 = x at *
      rcases hsep with ⟨rfl, e1, e2⟩ | ⟨e1, e2⟩
      · rw [e2] at HSN
        rw [e1] at HB
        clear e2 e1
        go_wp2_with (go_at_call 55; refine HB.out.mono ?_; rintro e w2 ⟨rfl, hb2⟩)
        go_roundw
        case rel => exact ⟨i + 1, by omega, by go_num, by rw [HSN.out]; go_num, hide (KO.on hk.out hb2)⟩
        case measure => simp [intOf]; omega
      · rw [e2] at HSN
        rw [e1] at HB
        clear e2 e1
        go_wp2_with (go_at_call 55; refine HB.out.mono ?_; rintro e w2 ⟨rfl, hb2⟩)
        go_roundw
        case rel => exact ⟨i + 1, by omega, by go_num, by rw [HSN.out]; go_num, hide (KO.on hk.out hb2)⟩
        case measure => simp [intOf]; omega
    · obtain rfl : i = n := by omega
      have HE := hide (show seps (l.take i) = seps l from by rw [← HL.out, List.take_length])
      go_wp2
      go_ret
      exact ⟨ret_int (by rw [HE.out]), hk.out⟩
/-- Where a paragraph begins: behind a separator, or at the beginning. -/
theorem bh_from (l : List Int) (k from0 : Nat) (hl : from0 ≤ l.length) (hs : seps (l.take from0) = k) (h : from0 = 0 ∨ sep (l.getD (from0 - 1) 0) = 1) : bh l k = from0 := by
  rcases Nat.eq_zero_or_pos from0 with h0 | h0
  · subst h0; simp at hs; subst hs; simp
  · obtain ⟨p, rfl⟩ : ∃ p, from0 = p + 1 := ⟨from0 - 1, by omega⟩
    have h1 : sep (l.getD p 0) = 1 := by
      rcases h with h | h
      · omega
      · simpa using h
    have h2 := seps_snoc l p (by omega)
    rw [hs, h1] at h2
    rw [h2]
    exact bh_at l p (by omega) h1
theorem infoR : (Try.prog.info? 21).map (fun i => (i.zero, i.size, i.bytes)) = some (some (.int .i32 0), 1, 4) := by kernel_rfl
theorem cellsR : Try.prog.cellsOf 21 = 1 := by kernel_rfl
theorem run_head (ao : Option Addr) (n cap j : Nat) (hj : j ≤ cap) (w : World) : (Instr.slice 22 (.slice ao n cap) none (some (.int .i64 (j : Int))) none).run Try.prog w = .ok (.slice ao j cap) w := by
  obtain ⟨i32, hi32, _⟩ := info_parts infoR
  exact run_upto Try.underlying22 hi32 cellsR ao n cap j hj w
theorem ret_ints3 {k1 k2 k3 : IntKind} {a b c d e f : Int} (h : a = b) (h' : c = d) (h'' : e = f) : Ending.returned (.tuple #[.int k1 a, .int k2 c, .int k3 e]) = .returned (.tuple #[.int k1 b, .int k2 d, .int k3 f]) := by rw [h, h', h'']
theorem rpara_any (ao : Option Addr) (n cap : Nat) (l : List Int) (i : Nat) (w : World) (h : Row .i32 w ao n cap l) (hf : ∀ x ∈ l, (Lit.int .i32 x).wf = true) (hn : n ≤ 4611686018427387904) (hi : i ≤ n) :
    Calls Try.prog 39 #[.slice ao n cap, .int .i64 (i : Int)] w fun e w' => e = .returned (.tuple #[.int .i64 (seps (l.take i) : Int), .int .i64 (bh l (seps (l.take i)) : Int), .int .i64 (bh l (seps (l.take i) + 1) : Int)]) ∧ Below w.heap.size w w' := by
  have H := hide h
  have HL := hide h.len
  have hle := h.le
  have HF := hide hf
  have hsl := run_head ao n cap i (by omega)
  have HBK := hide (fun w' (hk : KO w w') => rbreaks_any ao i cap (l.take i) w' ((h.below hk).take hi) (fun x hx => hf x (List.mem_of_mem_take hx)) (by omega))
  obtain ⟨k, hk⟩ : ∃ k, seps (l.take i) = k := ⟨_, rfl⟩
  rw [hk] at HBK ⊢
  have HK := hide hk
  clear h hf hk
  go_enter Try.func39, Try.ntmps39
  go_wp2_with fail
  go_loopw [7] (fun v wr => ∃ f : Nat, v = .int .i64 (f : Int) ∧ f ≤ i ∧ Hid (seps (l.take f) = k) ∧ Hid (KO w wr)) (fun v _ => (intOf v).toNat)
  case atStart => exact ⟨i, rfl, Nat.le_refl _, HK, KO.refl _⟩
  case round =>
    obtain ⟨f, rfl, hfi, hfk, hkr⟩ := hrel
    have hlen := HL.out
    have hx : (f = 0 ∧ bh l k = f) ∨ (0 < f ∧ (Ucd.cls (l.getD (f - 1) 0) == 11) = true ∧ bh l k = f) ∨ (0 < f ∧ (Ucd.cls (l.getD (f - 1) 0) == 11) = false ∧ seps (l.take (f - 1)) = k) := by
      rcases Nat.eq_zero_or_pos f with h0 | h0
      · exact .inl ⟨h0, bh_from l k f (by omega) hfk.out (.inl h0)⟩
      · by_cases hc : Ucd.cls (l.getD (f - 1) 0) = 11
        · exact .inr (.inl ⟨h0, beq_iff_eq.2 hc, bh_from l k f (by omega) hfk.out (.inr (sep_yes hc))⟩)
        · refine .inr (.inr ⟨h0, beq_false_of_ne hc, ?_⟩)
          have h1 := seps_snoc l (f - 1) (by omega)
          rw [show f - 1 + 1 = f from by omega, hfk.out, sep_no hc] at h1
          omega
    have hcell : 0 < f → ∃ b off, ao = some ⟨b, off, none⟩ ∧ wr.cell? ⟨b, off + (f - 1), none⟩ = some (.int .i32 (l.getD (f - 1) 0)) := fun h0 => by
      obtain ⟨b, off, e, hbl, hc⟩ := H.out.cells (by omega)
      exact ⟨b, off, e, (Below.cell hkr.out (by exact hbl)).trans (hc (f - 1) (by omega))⟩
    have HBR := hide (fun (h0 : 0 < f) => rbreak_any (l.getD (f - 1) 0) wr (getD_wf HF.out (by omega)))
    have HI := hide hi
    have HFI := hide hfi
    clear hlen
    rcases hx with ⟨h0, hbh⟩ | ⟨h0, hcl, hbh⟩ | ⟨h0, hcl, hse⟩
    · have ez : decide ((0 : Int) < (f : Int)) = false := decide_eq_false (by omega)
      have en : decide (0 < f) = false := decide_eq_false (by omega)
      clear hcell HBR h0
      go_wp2_with fail
      have HBH := hide hbh
      clear hbh
      go_loopw [8] (fun v wi => ∃ t : Nat, v = .int .i64 (t : Int) ∧ i ≤ t ∧ t ≤ n ∧ Hid (seps (l.take t) = k) ∧ Hid (KO w wi)) (fun v _ => n - (intOf v).toNat)
      case atStart => exact ⟨i, rfl, Nat.le_refl _, hi, HK, hkr⟩
      case round =>
        obtain ⟨t, rfl, hit, htn, htk, hkt⟩ := hrel
        by_cases htl : t < n
        · obtain ⟨b, off, hao, hbl, hc⟩ := H.out.cells (by omega)
          subst hao
          have htl2 : t < l.length := by rw [HL.out]; exact htl
          have ct : wr.cell? ⟨b, off + t, none⟩ = some (.int .i32 (l.getD t 0)) := (Below.cell hkt.out (by exact hbl)).trans (hc t htl2)
          have HB := hide (rbreak_any (l.getD t 0) wr (getD_wf HF.out htl2))
          have htn2 : (t : Int) < (n : Int) := by omega
          have h1 := seps_snoc l t htl2
          rw [htk.out] at h1
          by_cases hc11 : Ucd.cls (l.getD t 0) = 11
          · have h2 := bh_at l t htl2 (sep_yes hc11)
            rw [htk.out] at h2
            rw [show (Ucd.cls (l.getD t 0) == 11) = true from beq_iff_eq.2 hc11] at HB
            have HB2 := hide h2
            generalize l.getD t 0 = x at *
            clear h1 h2 hc11 hc htl2
            go_wp2_with (first
              | (go_at_call 55; refine HB.out.mono ?_; rintro e w2 ⟨rfl, hb2⟩; have hk2 := KO.on hkt.out hb2)
              | (go_at_call 36; refine (HBK.out _ hk2).mono ?_; rintro e w3 ⟨rfl, hb3⟩))
            go_ret3
            exact ⟨ret_ints3 rfl (by rw [HBH.out]) (by rw [HB2.out]; omega), KO.on hk2 hb3⟩
          · rw [sep_no hc11] at h1
            rw [show (Ucd.cls (l.getD t 0) == 11) = false from beq_false_of_ne hc11] at HB
            have HS := hide h1
            generalize l.getD t 0 = x at *
            clear h1 hc11 hc htl2
            go_wp2_with (go_at_call 55; refine HB.out.mono ?_; rintro e w2 ⟨rfl, hb2⟩)
            go_roundw
            case rel => exact ⟨t + 1, by go_num, by omega, by omega, by rw [HS.out]; exact Nat.add_zero k, hide (KO.on hkt.out hb2)⟩
            case measure => simp [intOf]; omega
        · obtain rfl : t = n := by omega
          have htn2 : ¬ ((t : Int) < (t : Int)) := by omega
          have HB2 := hide (show bh l (k + 1) = t from by
            have h1 := htk.out
            rw [← HL.out, List.take_length] at h1
            rw [bh_end l (k + 1) (by omega), HL.out])
          go_wp2_with (go_at_call 36; refine (HBK.out _ hkt.out).mono ?_; rintro e w3 ⟨rfl, hb3⟩)
          go_ret3
          exact ⟨ret_ints3 rfl (by rw [HBH.out]) (by rw [HB2.out]), KO.on hkt.out hb3⟩
    · obtain ⟨b9, off9, rfl, cf⟩ := hcell h0
      have HB9 := hide (HBR.out h0)
      rw [hcl] at HB9
      obtain ⟨p, hp⟩ : ∃ p, f - 1 = p := ⟨_, rfl⟩
      rw [hp] at cf HB9
      have ep : (f : Int) - 1 = (p : Int) := by omega
      have hf0 : (0 : Int) < (f : Int) := by omega
      have hpn : (p : Int) < (n : Int) := by omega
      generalize l.getD p 0 = x9 at *
      clear hcl hp hcell HBR
      go_wp2_with (go_at_call 55; refine HB9.out.mono ?_; rintro e w9 ⟨rfl, hb9⟩; have hk2 := KO.on hkr.out hb9)
      clear cf
      have HBH := hide hbh
      clear hbh
      go_loopw [8] (fun v wi => ∃ t : Nat, v = .int .i64 (t : Int) ∧ i ≤ t ∧ t ≤ n ∧ Hid (seps (l.take t) = k) ∧ Hid (KO w wi)) (fun v _ => n - (intOf v).toNat)
      case atStart => exact ⟨i, rfl, Nat.le_refl _, hi, HK, hide hk2⟩
      case round =>
        obtain ⟨t, rfl, hit, htn, htk, hkt⟩ := hrel
        by_cases htl : t < n
        · obtain ⟨b, off, hao, hbl, hc⟩ := H.out.cells (by omega)
          obtain ⟨rfl, rfl, _⟩ : b = b9 ∧ off = off9 ∧ True := by simp only [Option.some.injEq, Addr.mk.injEq] at hao; exact ⟨hao.1.symm, hao.2.1.symm, trivial⟩
          have htl2 : t < l.length := by rw [HL.out]; exact htl
          have ct : wr.cell? ⟨b, off + t, none⟩ = some (.int .i32 (l.getD t 0)) := (Below.cell hkt.out (by exact hbl)).trans (hc t htl2)
          have HB := hide (rbreak_any (l.getD t 0) wr (getD_wf HF.out htl2))
          have htn2 : (t : Int) < (n : Int) := by omega
          have h1 := seps_snoc l t htl2
          rw [htk.out] at h1
          by_cases hc11 : Ucd.cls (l.getD t 0) = 11
          · have h2 := bh_at l t htl2 (sep_yes hc11)
            rw [htk.out] at h2
            rw [show (Ucd.cls (l.getD t 0) == 11) = true from beq_iff_eq.2 hc11] at HB
            have HB2 := hide h2
            generalize l.getD t 0 = x at *
            clear h1 h2 hc11 hc htl2
            go_wp2_with (first
              | (go_at_call 55; refine HB.out.mono ?_; rintro e w2 ⟨rfl, hb2⟩; have hk2 := KO.on hkt.out hb2)
              | (go_at_call 36; refine (HBK.out _ hk2).mono ?_; rintro e w3 ⟨rfl, hb3⟩))
            go_ret3
            exact ⟨ret_ints3 rfl (by rw [HBH.out]) (by rw [HB2.out]; omega), KO.on hk2 hb3⟩
          · rw [sep_no hc11] at h1
            rw [show (Ucd.cls (l.getD t 0) == 11) = false from beq_false_of_ne hc11] at HB
            have HS := hide h1
            generalize l.getD t 0 = x at *
            clear h1 hc11 hc htl2
            go_wp2_with (go_at_call 55; refine HB.out.mono ?_; rintro e w2 ⟨rfl, hb2⟩)
            go_roundw
            case rel => exact ⟨t + 1, by go_num, by omega, by omega, by rw [HS.out]; exact Nat.add_zero k, hide (KO.on hkt.out hb2)⟩
            case measure => simp [intOf]; omega
        · obtain rfl : t = n := by omega
          have htn2 : ¬ ((t : Int) < (t : Int)) := by omega
          have HB2 := hide (show bh l (k + 1) = t from by
            have h1 := htk.out
            rw [← HL.out, List.take_length] at h1
            rw [bh_end l (k + 1) (by omega), HL.out])
          go_wp2_with (go_at_call 36; refine (HBK.out _ hkt.out).mono ?_; rintro e w3 ⟨rfl, hb3⟩)
          go_ret3
          exact ⟨ret_ints3 rfl (by rw [HBH.out]) (by rw [HB2.out]), KO.on hkt.out hb3⟩
    · obtain ⟨b, off, rfl, cf⟩ := hcell h0
      have HB := hide (HBR.out h0)
      rw [hcl] at HB
      obtain ⟨p, hp⟩ : ∃ p, f - 1 = p := ⟨_, rfl⟩
      rw [hp] at cf HB hse
      have ep : (f : Int) - 1 = (p : Int) := by omega
      have hf0 : (0 : Int) < (f : Int) := by omega
      have hpn : (p : Int) < (n : Int) := by omega
      have HSE := hide hse
      have hpi : p + 1 = f := by omega
      generalize l.getD p 0 = x at *
      clear hcl hse hp hcell HBR
      go_wp2_with (go_at_call 55; refine HB.out.mono ?_; rintro e w2 ⟨rfl, hb2⟩)
      go_roundw
      case rel => exact ⟨p, by first | rfl | rw [ep], by omega, HSE, hide (KO.on hkr.out hb2)⟩
      case measure => simp [intOf]; omega
end Go.Proofs.Yteiljaecaahonaa
