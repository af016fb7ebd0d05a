/- The contract of the document's At. -/
import Derived.Test.YtkcalmighgdojaaVal
import Derived.Deep.RegionWith
import Derived.Deep.RegionHeld3
namespace Go.Proofs.Ytkcalmighgdojaa
open Go.RowKit
set_option linter.unusedVariables false
theorem Utf.read_zero {ys : List Int} (h : (Utf.read ys).2 = 0) : Utf.read ys = (0, 0) := by
  cases ys with
  | nil => rfl
  | cons c cs =>
    by_cases h0 : (Utf.first c).2 = 0 ∨ (cs.length : Int) + 1 < (Utf.first c).2
    · exact Utf.read_short h0
    cases hc : Utf.conts (Utf.first c).1 (cs.take ((Utf.first c).2.toNat - 1)) with
    | none => exact Utf.read_none hc
    | some v =>
      by_cases hs : Utf.size v = (Utf.first c).2
      · rw [Utf.read_some h0 hc hs] at h; simp only at h; omega
      · exact Utf.read_odd hc hs
theorem str_inj {a b : List Int} (ha : Bytes a) (hb : Bytes b) (h : str a = str b) : a = b := by
  have h1 : (a.map (fun z => UInt8.ofNat z.toNat)) = b.map (fun z => UInt8.ofNat z.toNat) := by
    have := congrArg (fun s : ByteArray => s.data.toList) h
    simpa [str] using this
  have key : ∀ l : List Int, Bytes l → (l.map (fun z => UInt8.ofNat z.toNat)).map (fun c => (c.toNat : Int)) = l := by
    intro l hl
    rw [List.map_map]
    conv => rhs; rw [← List.map_id l]
    apply List.map_congr_left
    intro x hx
    exact byte_back (hl x hx).1 (hl x hx).2
  rw [← key a ha, ← key b hb, h1]
theorem Utf.val_bounds {ys : List Int} (hb : Bytes ys) (k : Nat) : -2147483648 ≤ Utf.val k ys ∧ Utf.val k ys ≤ 2147483647 := by
  unfold Utf.val
  split
  · have := hb _ (List.mem_cons_self ..); omega
  · rename_i x0 x1 _
    have h0 := hb x0 (by simp); have h1 := hb x1 (by simp); omega
  · rename_i x0 x1 x2 _
    have h0 := hb x0 (by simp); have h1 := hb x1 (by simp); have h2 := hb x2 (by simp); omega
  · rename_i x0 x1 x2 x3 _
    have h0 := hb x0 (by simp); have h1 := hb x1 (by simp); have h2 := hb x2 (by simp); have h3 := hb x3 (by simp); omega
  · omega
theorem rsize_q (v : Int) (w : World) (h0 : -2147483648 ≤ v) (h1 : v ≤ 2147483647) :
    Calls Try.prog 13 #[.int .i32 v] w fun e w' => e = .returned (.int .i64 (Utf.size v)) ∧ w' = w :=
  (rsize_any v w h0 h1).mono fun _ _ h => ⟨h.1, h.2.symm⟩
theorem toList_inj {a b : ByteArray} (h : a.toList = b.toList) : a = b := by
  rw [ByteArray.toList_eq, ByteArray.toList_eq] at h
  exact WideShapes.bytes_inj h
/-- What stands while a region goes: nothing old has turned, and the bytes are there. -/
def KS (w0 : World) (b off : Nat) (xs : List Int) (w : World) : Prop := Below w0.heap.size w0 w ∧ b < w.heap.size ∧ Cells .u8 w b off xs
/-- A form that was made lies there. -/
def KF (g m : Nat) (r : Int) (w : World) : Prop := Row .u8 w (some ⟨g, 0, none⟩) m m (Utf.form r)
theorem KS.drew {w0 : World} {b off : Nat} {xs : List Int} {w : World} (h : KS w0 b off xs w) : KS w0 b off xs w.drew := ⟨h.1.drew, h.2.1, h.2.2⟩
theorem rform_ks (r : Int) (w0 : World) (b off : Nat) (xs : List Int) (hr : Utf.size r ≠ 0) (w : World) (hS : KS w0 b off xs w) :
    Calls Try.prog 22 #[.int .i32 r] w fun e w' => ∃ g m, e = .returned (.slice (some ⟨g, 0, none⟩) m m) ∧ KS w0 b off xs w' ∧ KF g m r w' := by
  refine (rform_any r w hr).mono ?_
  rintro e w' ⟨m, hm, hm1, hm4, rfl, rfl⟩
  have hb : Below w.heap.size w (w.alloc (.cells ((Utf.form r).map (Value.int .u8)).toArray 5)) := (Below.refl _ w).alloc (Nat.le_refl _) _
  refine ⟨_, _, rfl, ⟨hS.1.alloc hS.1.size _, by have := hS.2.1; simp; omega, fun i hi => (hb.cell (by exact hS.2.1)).trans (hS.2.2 i hi)⟩, ⟨hm.symm, Nat.le_refl _, by unfold maxLen; omega, fun _ => ⟨_, _, rfl, by simp, fun i hi => ?_⟩, fun h => by cases h⟩⟩
  rw [Nat.zero_add, World.cell?_alloc_mark]
  simp [List.getD, List.getElem?_eq_getElem hi]
theorem run_ks (w0 : World) (b off k cap at0 : Nat) (xs : List Int) (hb : Bytes xs) (hcap : at0 + k ≤ cap) (hm : cap ≤ maxLen) (hk : at0 + k ≤ xs.length) (w : World) (h : KS w0 b off xs w) :
    (convert 22 9 (.slice (some ⟨b, off + at0, none⟩) k (cap - at0))).run Try.prog w = .ok (.string (str ((xs.drop at0).take k))) w :=
  run_str w _ _ _ _ ⟨by simp; omega, by omega, by omega, fun _ => ⟨_, _, rfl, h.2.1, (h.2.2.drop at0).take k⟩, fun h => by cases h⟩ ((hb.drop at0).take k)
theorem run_sl (b off len cap at0 k : Nat) (h : at0 + k ≤ cap) (h2 : at0 < cap) (w : World) :
    (Instr.slice 22 (.slice (some ⟨b, off, none⟩) len cap) (some (.int .i64 at0)) (some (.int .i64 (at0 + k))) none).run Try.prog w = .ok (.slice (some ⟨b, off + at0, none⟩) k (cap - at0)) w := by
  have e1 : (0 : Int) ≤ (at0 : Int) + k ∧ (at0 : Int) + k ≤ cap := by omega
  have e2 : (0 : Int) ≤ (at0 : Int) ∧ (at0 : Int) ≤ ((((at0 : Int) + k).toNat : Nat) : Int) := by omega
  simp [Instr.slice, run_underlying Try.underlying22, Instr.sliceBounds, go_sem, e1, e2]
  rw [if_pos (by omega), if_neg (by omega), show ((at0 : Int) + k).toNat - at0 = k from by omega]
theorem run_kf (g m : Nat) (r : Int) (hr : Utf.size r ≠ 0) (w : World) (h : KF g m r w) :
    (convert 22 9 (.slice (some ⟨g, 0, none⟩) m m)).run Try.prog w = .ok (.string (str (Utf.form r))) w :=
  run_str w _ _ _ _ h (Utf.form_bytes hr)
set_option maxHeartbeats 2000000 in
theorem at_any (b off len cap at0 : Nat) (xs : List Int) (w : World) (hm : cap ≤ maxLen) (hl : len ≤ cap) (hlen : xs.length = len) (hat : at0 < len) (hbw : b < w.heap.size) (hc : Cells .u8 w b off xs) (hb : Bytes xs) (hsz : len ≤ 140737488355328) :
    Calls Try.prog 25 #[.slice (some ⟨b, off, none⟩) len cap, .int .i64 at0] w fun e w' => e = .returned (.tuple #[.int .i32 (Utf.read (xs.drop at0)).1, .int .i64 (Utf.read (xs.drop at0)).2]) ∧ Below w.heap.size w w' := by
  have HM := hide hm
  unfold maxLen at hm
  have HL := hide hlen
  have HC := hide hc
  have HB := hide hb
  have hbd := Utf.read_bounds (xs.drop at0)
  rw [List.length_drop, hlen] at hbd
  have HD := hide hbd
  have HF := hide (fun h => Utf.form_read (ys := xs.drop at0) h (hb.drop at0))
  have HV := hide (fun h => Utf.val_read (ys := xs.drop at0) h (hb.drop at0))
  have HT := hide (fun (v : Int) (k : Nat) => Utf.read_of_take (ys := xs.drop at0) (v := v) (k := k))
  have HZ := hide (fun h => Utf.read_zero (ys := xs.drop at0) h)
  have HBD := hide (hb.drop at0)
  clear hlen hc hb hbd
  go_enter Try.func25, Try.ntmps25
  go_wp2
  go_loopw [6] (fun i wr => ∃ k : Nat, 1 ≤ k ∧ k ≤ 5 ∧ i = .int .i64 k ∧ Hid (∀ j : Nat, 1 ≤ j → j < k → (Utf.read (xs.drop at0)).2 ≠ j) ∧ Hid (Below w.heap.size w wr)) (fun i _ => 5 - (intOf i).toNat)
  case atStart => exact ⟨1, by omega, by omega, rfl, by intro j h1 h2; omega, Below.refl _ _⟩
  case round =>
    obtain ⟨k, hk1, hk5, rfl, hno, hbel⟩ := hrel
    by_cases hgo : k ≤ 4 ∧ at0 + k ≤ len
    · obtain ⟨hk4, hak⟩ := hgo
      have hbwr : b < wr.heap.size := Nat.lt_of_lt_of_le hbw hbel.out.size
      have HCr : Hid (Cells .u8 wr b off xs) := fun i hi => (hbel.out.cell (by exact hbw)).trans (HC.out i hi)
      have HVA := hide (value_any b off len cap at0 k xs wr HM.out hl HL.out hak hk1 hk4 hbwr HCr.out HB.out)
      by_cases hs : Utf.size (Utf.val k (xs.drop at0)) = k
      · have hvb := Utf.val_bounds HBD.out k
        have HT2 := hide (HT.out (Utf.val k (xs.drop at0)) k hs (by omega))
        have HNK : Hid ((xs.drop at0).take k ≠ Utf.form (Utf.val k (xs.drop at0)) → (Utf.read (xs.drop at0)).2 ≠ k) := by
          intro hf hr
          have h0 : (Utf.read (xs.drop at0)).2 ≠ 0 := by omega
          have e1 := HV.out h0
          have e2 := (HF.out h0).1
          rw [hr] at e1 e2
          rw [show ((k : Int)).toNat = k from by omega] at e1 e2
          rw [e1] at hf
          exact hf e2.symm
        generalize hrv : Utf.val k (xs.drop at0) = rv at *
        obtain ⟨hvb0, hvb1⟩ := hvb
        have hs' : (Utf.size rv == k) = true := by simp [hs]
        have hs0 : Utf.size rv ≠ 0 := by omega
        have HS0 := hide hs0
        clear hs0 HV HF hrv hs
        by_cases hf : (xs.drop at0).take k = Utf.form rv
        · have HR := hide (HT2.out hf)
          go_wp2_with (first | (go_at_call 28; refine HVA.out.mono ?_; rintro e w2 ⟨rfl, hb2⟩))
          have HX := hide (hbel.out.trans (hb2.mono hbel.out.size))
          have hKS : KS w b off xs w2 := ⟨HX.out, Nat.lt_of_lt_of_le hbw HX.out.size, fun i hi => (HX.out.cell (by exact hbw)).trans (HC.out i hi)⟩
          have hrun := fun w' => run_ks w b off k cap at0 xs HB.out (by omega) HM.out (by have := HL.out; omega) w'
          rw [hf] at hrun
          have hsl := fun w' => run_sl b off len cap at0 k (by omega) (by omega) w'
          have hwr : IntKind.i64.wrap ((at0 : Int) + (k : Int)) = (at0 : Int) + (k : Int) := IntWalk.i64_in _ (by omega)
          clear hb2 hbel HCr hf HT2 HVA HT HZ HD
          refine wp_region_noPanic ?_
          go_region_held (fun w' => KS w b off xs w') (first | exact KS.drew hKS | assumption)
            (first | (go_at_call 13; refine (rsize_any _ _ (by omega) (by omega)).mono ?_; rintro e w' ⟨rfl, rfl⟩) | (go_at_call 22; refine (rform_ks _ w b off xs HS0.out _ ?_).mono ?_; assumption; rintro e w' ⟨g, m, rfl, hks, hkf⟩; have hrf := run_kf _ _ _ HS0.out _ hkf))
          all_goals (refine NoPanic.normal ?_)
          go_wp2
          go_ret2
          rw [HR.out]
          exact ⟨rfl, (‹KS w b off xs _› : KS w b off xs _).1⟩
        · have hne : Hid (str (Utf.form rv) ≠ str ((xs.drop at0).take k)) := fun h => hf (str_inj (Utf.form_bytes HS0.out) (HBD.out.take k) h).symm
          have HN : Hid (∀ j : Nat, 1 ≤ j → j < k + 1 → (Utf.read (xs.drop at0)).2 ≠ j) := by
            intro j h1 h2
            by_cases hj : j = k
            · subst hj
              exact HNK.out hf
            · exact hno.out j h1 (by omega)
          go_wp2_with (first | (go_at_call 28; refine HVA.out.mono ?_; rintro e w2 ⟨rfl, hb2⟩))
          have HX := hide (hbel.out.trans (hb2.mono hbel.out.size))
          have hKS : KS w b off xs w2 := ⟨HX.out, Nat.lt_of_lt_of_le hbw HX.out.size, fun i hi => (HX.out.cell (by exact hbw)).trans (HC.out i hi)⟩
          have hrun := fun w' => run_ks w b off k cap at0 xs HB.out (by omega) HM.out (by have := HL.out; omega) w'
          have hne' : ((str (Utf.form rv)).toList == (str ((xs.drop at0).take k)).toList) = false := by
            rw [beq_eq_false_iff_ne]
            exact fun h => hne.out (toList_inj h)
          generalize str ((xs.drop at0).take k) = s2 at *
          have hsl := fun w' => run_sl b off len cap at0 k (by omega) (by omega) w'
          have hwr : IntKind.i64.wrap ((at0 : Int) + (k : Int)) = (at0 : Int) + (k : Int) := IntWalk.i64_in _ (by omega)
          clear hb2 hbel HCr hf HT2 HVA HT HZ HD
          refine wp_region_noPanic ?_
          go_region_held (fun w' => KS w b off xs w') (first | exact KS.drew hKS | assumption)
            (first | (go_at_call 13; refine (rsize_any _ _ (by omega) (by omega)).mono ?_; rintro e w' ⟨rfl, rfl⟩) | (go_at_call 22; refine (rform_ks _ w b off xs HS0.out _ ?_).mono ?_; assumption; rintro e w' ⟨g, m, rfl, hks, hkf⟩; have hrf := run_kf _ _ _ HS0.out _ hkf))
          all_goals (refine NoPanic.normal ?_)
          go_wp2
          go_roundw
          case rel => exact ⟨k + 1, by omega, by omega, by go_num, HN, (‹KS w b off xs _› : KS w b off xs _).1⟩
          case measure => simp [intOf]; omega
      · have hnk : (Utf.read (xs.drop at0)).2 ≠ k := by
          intro hr
          have h0 : (Utf.read (xs.drop at0)).2 ≠ 0 := by omega
          have e1 := HV.out h0
          have e2 := (HF.out h0).2
          rw [hr] at e1 e2
          rw [show ((k : Int)).toNat = k from by omega] at e1
          rw [e1] at hs
          exact hs e2
        have HN : Hid (∀ j : Nat, 1 ≤ j → j < k + 1 → (Utf.read (xs.drop at0)).2 ≠ j) := by
          intro j h1 h2
          by_cases hj : j = k
          · subst hj; exact hnk
          · exact hno.out j h1 (by omega)
        have hvb := Utf.val_bounds HBD.out k
        generalize hrv : Utf.val k (xs.drop at0) = rv at *
        obtain ⟨hvb0, hvb1⟩ := hvb
        have hs' : (Utf.size rv == k) = false := by simp [hs]
        clear hnk hno hs HV HF hrv
        go_wp2_with (first | (go_at_call 28; refine HVA.out.mono ?_; rintro e w2 ⟨rfl, hb2⟩))
        have HX := hide (hbel.out.trans (hb2.mono hbel.out.size))
        clear hb2 hbel
        go_quiet ((go_at_call 13; exact Calls.quiet_of_same (rsize_q _ _ (by omega) (by omega))))
        go_wp2
        go_roundw
        case rel => exact ⟨k + 1, by omega, by omega, by go_num, HN, below_drewN HX.out _⟩
        case measure => simp [intOf]; omega
    · have hz : (Utf.read (xs.drop at0)).2 = 0 := by
        by_cases h0 : (Utf.read (xs.drop at0)).2 = 0
        · exact h0
        have hd := HD.out
        exact absurd (by omega) (hno.out (Utf.read (xs.drop at0)).2.toNat (by omega) (by omega))
      have HR := hide (HZ.out hz)
      clear hz hno
      by_cases hk4 : k ≤ 4
      · have hak : ¬ at0 + k ≤ len := by omega
        clear hgo
        go_wp2
        go_ret2
        rw [HR.out]
        exact ⟨rfl, hbel.out⟩
      · clear hgo
        go_wp2
        go_ret2
        rw [HR.out]
        exact ⟨rfl, hbel.out⟩
end Go.Proofs.Ytkcalmighgdojaa
