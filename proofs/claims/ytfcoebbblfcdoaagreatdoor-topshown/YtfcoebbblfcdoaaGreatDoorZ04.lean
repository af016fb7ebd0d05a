import Derived.Test.YtfcoebbblfcdoaaGreatDoorZ03
import Derived.Deep.RegionWith
import Derived.Deep.RegionHeld3
import Derived.Test.YtfcoebbblfcdoaaGreatDoorZ01
/- The contract of the document's value: the number that so many bytes would be. -/
namespace Go.Proofs.YtfcoebbblfcdoaaGreatDoor
open Go.RowKit
set_option linter.unusedVariables false
set_option maxRecDepth 100000
set_option maxHeartbeats 1000000 in
theorem value1 (b off len cap at0 : Nat) (x0 : Int) (w : World) (hm : cap ≤ maxLen) (hl : len ≤ cap) (hat : at0 + 1 ≤ len) (hbw : b < w.heap.size) (h0 : w.cell? ⟨b, off + at0, none⟩ = some (.int .u8 x0)) (l0 : 0 ≤ x0) (u0 : x0 ≤ 255) :
    Calls Tryz.prog 30 #[.slice (some ⟨b, off, none⟩) len cap, .int .i64 at0, .int .i64 1] w fun e w' => e = .returned (.int .i32 (x0)) ∧ Below w.heap.size w w' := by
  unfold maxLen at hm
  have q0 : (0 : Int) ≤ (at0 : Int) := by omega
  have q1 : (at0 : Int) < (len : Int) := by omega
  go_enter Tryz.func30, Tryz.ntmps30
  go_wp2
  go_quiet (fail)
  go_wp2
  refine wp_loop_rounds 1 ?_
  rw [rounds_succ]
  go_wp2
  go_ret
  exact ⟨rfl, below_drewN ((Below.refl _ w).alloc (Nat.le_refl _) _) _⟩
set_option maxHeartbeats 1000000 in
theorem value2 (b off len cap at0 : Nat) (x0 x1 : Int) (w : World) (hm : cap ≤ maxLen) (hl : len ≤ cap) (hat : at0 + 2 ≤ len) (hbw : b < w.heap.size) (h0 : w.cell? ⟨b, off + at0, none⟩ = some (.int .u8 x0)) (h1 : w.cell? ⟨b, off + (at0 + 1), none⟩ = some (.int .u8 x1)) (l0 : 0 ≤ x0) (u0 : x0 ≤ 255) (l1 : 0 ≤ x1) (u1 : x1 ≤ 255) :
    Calls Tryz.prog 30 #[.slice (some ⟨b, off, none⟩) len cap, .int .i64 at0, .int .i64 2] w fun e w' => e = .returned (.int .i32 ((x0 - 192) * 64 + x1 - 128)) ∧ Below w.heap.size w w' := by
  unfold maxLen at hm
  have q0 : (0 : Int) ≤ (at0 : Int) := by omega
  have q1 : (at0 : Int) < (len : Int) := by omega
  go_enter Tryz.func30, Tryz.ntmps30
  go_wp2
  go_quiet (fail)
  go_wp2
  refine wp_loop_rounds 2 ?_
  rw [rounds_succ]
  go_wp2
  rw [rounds_succ]
  go_wp2
  go_ret
  exact ⟨rfl, below_drewN ((Below.refl _ w).alloc (Nat.le_refl _) _) _⟩
set_option maxHeartbeats 1000000 in
theorem value3 (b off len cap at0 : Nat) (x0 x1 x2 : Int) (w : World) (hm : cap ≤ maxLen) (hl : len ≤ cap) (hat : at0 + 3 ≤ len) (hbw : b < w.heap.size) (h0 : w.cell? ⟨b, off + at0, none⟩ = some (.int .u8 x0)) (h1 : w.cell? ⟨b, off + (at0 + 1), none⟩ = some (.int .u8 x1)) (h2 : w.cell? ⟨b, off + (at0 + 2), none⟩ = some (.int .u8 x2)) (l0 : 0 ≤ x0) (u0 : x0 ≤ 255) (l1 : 0 ≤ x1) (u1 : x1 ≤ 255) (l2 : 0 ≤ x2) (u2 : x2 ≤ 255) :
    Calls Tryz.prog 30 #[.slice (some ⟨b, off, none⟩) len cap, .int .i64 at0, .int .i64 3] w fun e w' => e = .returned (.int .i32 (((x0 - 224) * 64 + x1 - 128) * 64 + x2 - 128)) ∧ Below w.heap.size w w' := by
  unfold maxLen at hm
  have q0 : (0 : Int) ≤ (at0 : Int) := by omega
  have q1 : (at0 : Int) < (len : Int) := by omega
  go_enter Tryz.func30, Tryz.ntmps30
  go_wp2
  go_quiet (fail)
  go_wp2
  refine wp_loop_rounds 3 ?_
  rw [rounds_succ]
  go_wp2
  rw [rounds_succ]
  go_wp2
  rw [rounds_succ]
  go_wp2
  go_ret
  exact ⟨rfl, below_drewN ((Below.refl _ w).alloc (Nat.le_refl _) _) _⟩
set_option maxHeartbeats 1000000 in
theorem value4 (b off len cap at0 : Nat) (x0 x1 x2 x3 : Int) (w : World) (hm : cap ≤ maxLen) (hl : len ≤ cap) (hat : at0 + 4 ≤ len) (hbw : b < w.heap.size) (h0 : w.cell? ⟨b, off + at0, none⟩ = some (.int .u8 x0)) (h1 : w.cell? ⟨b, off + (at0 + 1), none⟩ = some (.int .u8 x1)) (h2 : w.cell? ⟨b, off + (at0 + 2), none⟩ = some (.int .u8 x2)) (h3 : w.cell? ⟨b, off + (at0 + 3), none⟩ = some (.int .u8 x3)) (l0 : 0 ≤ x0) (u0 : x0 ≤ 255) (l1 : 0 ≤ x1) (u1 : x1 ≤ 255) (l2 : 0 ≤ x2) (u2 : x2 ≤ 255) (l3 : 0 ≤ x3) (u3 : x3 ≤ 255) :
    Calls Tryz.prog 30 #[.slice (some ⟨b, off, none⟩) len cap, .int .i64 at0, .int .i64 4] w fun e w' => e = .returned (.int .i32 ((((x0 - 240) * 64 + x1 - 128) * 64 + x2 - 128) * 64 + x3 - 128)) ∧ Below w.heap.size w w' := by
  unfold maxLen at hm
  have q0 : (0 : Int) ≤ (at0 : Int) := by omega
  have q1 : (at0 : Int) < (len : Int) := by omega
  go_enter Tryz.func30, Tryz.ntmps30
  go_wp2
  go_quiet (fail)
  go_wp2
  refine wp_loop_rounds 4 ?_
  rw [rounds_succ]
  go_wp2
  rw [rounds_succ]
  go_wp2
  rw [rounds_succ]
  go_wp2
  rw [rounds_succ]
  go_wp2
  go_ret
  exact ⟨rfl, below_drewN ((Below.refl _ w).alloc (Nat.le_refl _) _) _⟩
/-- The bytes from a place on. -/
theorem cells_at {w : World} {b off : Nat} {xs : List Int} (hc : Cells .u8 w b off xs) (hb : Bytes xs) {i : Nat} (hi : i < xs.length) : w.cell? ⟨b, off + i, none⟩ = some (.int .u8 (xs.getD i 0)) ∧ 0 ≤ xs.getD i 0 ∧ xs.getD i 0 ≤ 255 := by
  refine ⟨hc i hi, ?_⟩
  have e : xs.getD i 0 = xs[i] := by simp [List.getD, List.getElem?_eq_getElem hi]
  rw [e]; exact hb _ (List.getElem_mem _)
theorem drop_cons {xs : List Int} {i : Nat} (hi : i < xs.length) : xs.drop i = xs.getD i 0 :: xs.drop (i + 1) := by
  rw [List.drop_eq_getElem_cons hi]; simp [List.getD, List.getElem?_eq_getElem hi]
theorem value_any (b off len cap at0 k : Nat) (xs : List Int) (w : World) (hm : cap ≤ maxLen) (hl : len ≤ cap) (hlen : xs.length = len) (hat : at0 + k ≤ len) (h1 : 1 ≤ k) (h4 : k ≤ 4) (hbw : b < w.heap.size) (hc : Cells .u8 w b off xs) (hb : Bytes xs) :
    Calls Tryz.prog 30 #[.slice (some ⟨b, off, none⟩) len cap, .int .i64 at0, .int .i64 k] w fun e w' => e = .returned (.int .i32 (Utf.val k (xs.drop at0))) ∧ Below w.heap.size w w' := by
  subst hlen
  have c0 := cells_at hc hb (i := at0) (by omega)
  have : k = 1 ∨ k = 2 ∨ k = 3 ∨ k = 4 := by omega
  rcases this with rfl | rfl | rfl | rfl
  · rw [drop_cons (i := at0) (by omega)]
    exact value1 b off _ cap at0 _ w hm hl hat hbw c0.1 c0.2.1 c0.2.2
  · have c1 := cells_at hc hb (i := at0 + 1) (by omega)
    rw [drop_cons (i := at0) (by omega), drop_cons (i := at0 + 1) (by omega)]
    exact value2 b off _ cap at0 _ _ w hm hl hat hbw c0.1 c1.1 c0.2.1 c0.2.2 c1.2.1 c1.2.2
  · have c1 := cells_at hc hb (i := at0 + 1) (by omega)
    have c2 := cells_at hc hb (i := at0 + 2) (by omega)
    rw [drop_cons (i := at0) (by omega), drop_cons (i := at0 + 1) (by omega), drop_cons (i := at0 + 2) (by omega)]
    exact value3 b off _ cap at0 _ _ _ w hm hl hat hbw c0.1 c1.1 c2.1 c0.2.1 c0.2.2 c1.2.1 c1.2.2 c2.2.1 c2.2.2
  · have c1 := cells_at hc hb (i := at0 + 1) (by omega)
    have c2 := cells_at hc hb (i := at0 + 2) (by omega)
    have c3 := cells_at hc hb (i := at0 + 3) (by omega)
    rw [drop_cons (i := at0) (by omega), drop_cons (i := at0 + 1) (by omega), drop_cons (i := at0 + 2) (by omega), drop_cons (i := at0 + 3) (by omega)]
    exact value4 b off _ cap at0 _ _ _ _ w hm hl hat hbw c0.1 c1.1 c2.1 c3.1 c0.2.1 c0.2.2 c1.2.1 c1.2.2 c2.2.1 c2.2.2 c3.2.1 c3.2.2
end Go.Proofs.YtfcoebbblfcdoaaGreatDoor

/- The contract of the document's At. -/
namespace Go.Proofs.YtfcoebbblfcdoaaGreatDoor
open Go.RowKit
set_option linter.unusedVariables false
set_option maxRecDepth 100000
theorem Utf.read_zero {ys : List Int} (h : (Utf.read ys).2 = 0) : Utf.read ys = (0, 0) := by
  cases ys with
  | nil => rfl
  | cons c cs =>
    by_cases h0 : (Utf.first c).2 = 0 ∨ (cs.length : Int) + 1 < (Utf.first c).2
    · exact Utf.read_short h0
    cases hc : Utf.conts (Utf.first c).1 (cs.take ((Utf.first c).2.toNat - 1)) with
    | none => exact Utf.read_none hc
    | some v =>
      by_cases hs : Utf.size v = (Utf.first c).2
      · rw [Utf.read_some h0 hc hs] at h; simp only at h; omega
      · exact Utf.read_odd hc hs
theorem str_inj {a b : List Int} (ha : Bytes a) (hb : Bytes b) (h : str a = str b) : a = b := by
  have h1 : (a.map (fun z => UInt8.ofNat z.toNat)) = b.map (fun z => UInt8.ofNat z.toNat) := by
    have := congrArg (fun s : ByteArray => s.data.toList) h
    simpa [str] using this
  have key : ∀ l : List Int, Bytes l → (l.map (fun z => UInt8.ofNat z.toNat)).map (fun c => (c.toNat : Int)) = l := by
    intro l hl
    rw [List.map_map]
    conv => rhs; rw [← List.map_id l]
    apply List.map_congr_left
    intro x hx
    exact byte_back (hl x hx).1 (hl x hx).2
  rw [← key a ha, ← key b hb, h1]
theorem Utf.val_bounds {ys : List Int} (hb : Bytes ys) (k : Nat) : -2147483648 ≤ Utf.val k ys ∧ Utf.val k ys ≤ 2147483647 := by
  unfold Utf.val
  split
  · have := hb _ (List.mem_cons_self ..); omega
  · rename_i x0 x1 _
    have h0 := hb x0 (by simp); have h1 := hb x1 (by simp); omega
  · rename_i x0 x1 x2 _
    have h0 := hb x0 (by simp); have h1 := hb x1 (by simp); have h2 := hb x2 (by simp); omega
  · rename_i x0 x1 x2 x3 _
    have h0 := hb x0 (by simp); have h1 := hb x1 (by simp); have h2 := hb x2 (by simp); have h3 := hb x3 (by simp); omega
  · omega
theorem rsize_q (v : Int) (w : World) (h0 : -2147483648 ≤ v) (h1 : v ≤ 2147483647) :
    Calls Tryz.prog 27 #[.int .i32 v] w fun e w' => e = .returned (.int .i64 (Utf.size v)) ∧ w' = w :=
  (ursize_any v w h0 h1).mono fun _ _ h => ⟨h.1, h.2.symm⟩
theorem toList_inj {a b : ByteArray} (h : a.toList = b.toList) : a = b := by
  rw [ByteArray.toList_eq, ByteArray.toList_eq] at h
  exact WideShapes.bytes_inj h
/-- What stands while a region goes: nothing old has turned, and the bytes are there. -/
def KS (w0 : World) (b off : Nat) (xs : List Int) (w : World) : Prop := Below w0.heap.size w0 w ∧ b < w.heap.size ∧ Cells .u8 w b off xs
/-- A form that was made lies there. -/
def KF (g m : Nat) (r : Int) (w : World) : Prop := Row .u8 w (some ⟨g, 0, none⟩) m m (Utf.form r)
theorem KS.drew {w0 : World} {b off : Nat} {xs : List Int} {w : World} (h : KS w0 b off xs w) : KS w0 b off xs w.drew := ⟨h.1.drew, h.2.1, h.2.2⟩
theorem rform_ks (r : Int) (w0 : World) (b off : Nat) (xs : List Int) (hr : Utf.size r ≠ 0) (w : World) (hS : KS w0 b off xs w) :
    Calls Tryz.prog 28 #[.int .i32 r] w fun e w' => ∃ g m, e = .returned (.slice (some ⟨g, 0, none⟩) m m) ∧ KS w0 b off xs w' ∧ KF g m r w' := by
  refine (rform_any r w hr).mono ?_
  rintro e w' ⟨m, hm, hm1, hm4, rfl, rfl⟩
  have hb : Below w.heap.size w (w.alloc (.cells ((Utf.form r).map (Value.int .u8)).toArray 5)) := (Below.refl _ w).alloc (Nat.le_refl _) _
  refine ⟨_, _, rfl, ⟨hS.1.alloc hS.1.size _, by have := hS.2.1; simp; omega, fun i hi => (hb.cell (by exact hS.2.1)).trans (hS.2.2 i hi)⟩, ⟨hm.symm, Nat.le_refl _, by unfold maxLen; omega, fun _ => ⟨_, _, rfl, by simp, fun i hi => ?_⟩, fun h => by cases h⟩⟩
  rw [Nat.zero_add, World.cell?_alloc_mark]
  simp [List.getD, List.getElem?_eq_getElem hi]
theorem run_ks (w0 : World) (b off k cap at0 : Nat) (xs : List Int) (hb : Bytes xs) (hcap : at0 + k ≤ cap) (hm : cap ≤ maxLen) (hk : at0 + k ≤ xs.length) (w : World) (h : KS w0 b off xs w) :
    (convert 22 9 (.slice (some ⟨b, off + at0, none⟩) k (cap - at0))).run Tryz.prog w = .ok (.string (str ((xs.drop at0).take k))) w :=
  run_str w _ _ _ _ ⟨by simp; omega, by omega, by omega, fun _ => ⟨_, _, rfl, h.2.1, (h.2.2.drop at0).take k⟩, fun h => by cases h⟩ ((hb.drop at0).take k)
theorem run_sl (b off len cap at0 k : Nat) (h : at0 + k ≤ cap) (h2 : at0 < cap) (w : World) :
    (Instr.slice 22 (.slice (some ⟨b, off, none⟩) len cap) (some (.int .i64 at0)) (some (.int .i64 (at0 + k))) none).run Tryz.prog w = .ok (.slice (some ⟨b, off + at0, none⟩) k (cap - at0)) w := by
  have e1 : (0 : Int) ≤ (at0 : Int) + k ∧ (at0 : Int) + k ≤ cap := by omega
  have e2 : (0 : Int) ≤ (at0 : Int) ∧ (at0 : Int) ≤ ((((at0 : Int) + k).toNat : Nat) : Int) := by omega
  simp [Instr.slice, run_underlying Tryz.underlying22, Instr.sliceBounds, go_sem, e1, e2]
  rw [if_pos (by omega), if_neg (by omega), show ((at0 : Int) + k).toNat - at0 = k from by omega]
theorem run_kf (g m : Nat) (r : Int) (hr : Utf.size r ≠ 0) (w : World) (h : KF g m r w) :
    (convert 22 9 (.slice (some ⟨g, 0, none⟩) m m)).run Tryz.prog w = .ok (.string (str (Utf.form r))) w :=
  run_str w _ _ _ _ h (Utf.form_bytes hr)
set_option maxHeartbeats 2000000 in
theorem at_any (b off len cap at0 : Nat) (xs : List Int) (w : World) (hm : cap ≤ maxLen) (hl : len ≤ cap) (hlen : xs.length = len) (hat : at0 < len) (hbw : b < w.heap.size) (hc : Cells .u8 w b off xs) (hb : Bytes xs) (hsz : len ≤ 140737488355328) :
    Calls Tryz.prog 15 #[.slice (some ⟨b, off, none⟩) len cap, .int .i64 at0] w fun e w' => e = .returned (.tuple #[.int .i32 (Utf.read (xs.drop at0)).1, .int .i64 (Utf.read (xs.drop at0)).2]) ∧ Below w.heap.size w w' := by
  have HM := hide hm
  unfold maxLen at hm
  have HL := hide hlen
  have HC := hide hc
  have HB := hide hb
  have hbd := Utf.read_bounds (xs.drop at0)
  rw [List.length_drop, hlen] at hbd
  have HD := hide hbd
  have HF := hide (fun h => Utf.form_read (ys := xs.drop at0) h (hb.drop at0))
  have HV := hide (fun h => Utf.val_read (ys := xs.drop at0) h (hb.drop at0))
  have HT := hide (fun (v : Int) (k : Nat) => Utf.read_of_take (ys := xs.drop at0) (v := v) (k := k))
  have HZ := hide (fun h => Utf.read_zero (ys := xs.drop at0) h)
  have HBD := hide (hb.drop at0)
  clear hlen hc hb hbd
  go_enter Tryz.func15, Tryz.ntmps15
  go_wp2
  go_loopw [6] (fun i wr => ∃ k : Nat, 1 ≤ k ∧ k ≤ 5 ∧ i = .int .i64 k ∧ Hid (∀ j : Nat, 1 ≤ j → j < k → (Utf.read (xs.drop at0)).2 ≠ j) ∧ Hid (Below w.heap.size w wr)) (fun i _ => 5 - (intOf i).toNat)
  case atStart => exact ⟨1, by omega, by omega, rfl, by intro j h1 h2; omega, Below.refl _ _⟩
  case round =>
    obtain ⟨k, hk1, hk5, rfl, hno, hbel⟩ := hrel
    by_cases hgo : k ≤ 4 ∧ at0 + k ≤ len
    · obtain ⟨hk4, hak⟩ := hgo
      have hbwr : b < wr.heap.size := Nat.lt_of_lt_of_le hbw hbel.out.size
      have HCr : Hid (Cells .u8 wr b off xs) := fun i hi => (hbel.out.cell (by exact hbw)).trans (HC.out i hi)
      have HVA := hide (value_any b off len cap at0 k xs wr HM.out hl HL.out hak hk1 hk4 hbwr HCr.out HB.out)
      by_cases hs : Utf.size (Utf.val k (xs.drop at0)) = k
      · have hvb := Utf.val_bounds HBD.out k
        have HT2 := hide (HT.out (Utf.val k (xs.drop at0)) k hs (by omega))
        have HNK : Hid ((xs.drop at0).take k ≠ Utf.form (Utf.val k (xs.drop at0)) → (Utf.read (xs.drop at0)).2 ≠ k) := by
          intro hf hr
          have h0 : (Utf.read (xs.drop at0)).2 ≠ 0 := by omega
          have e1 := HV.out h0
          have e2 := (HF.out h0).1
          rw [hr] at e1 e2
          rw [show ((k : Int)).toNat = k from by omega] at e1 e2
          rw [e1] at hf
          exact hf e2.symm
        generalize hrv : Utf.val k (xs.drop at0) = rv at *
        obtain ⟨hvb0, hvb1⟩ := hvb
        have hs' : (Utf.size rv == k) = true := by simp [hs]
        have hs0 : Utf.size rv ≠ 0 := by omega
        have HS0 := hide hs0
        clear hs0 HV HF hrv hs
        by_cases hf : (xs.drop at0).take k = Utf.form rv
        · have HR := hide (HT2.out hf)
          go_wp2_with (first | (go_at_call 30; refine HVA.out.mono ?_; rintro e w2 ⟨rfl, hb2⟩))
          have HX := hide (hbel.out.trans (hb2.mono hbel.out.size))
          have hKS : KS w b off xs w2 := ⟨HX.out, Nat.lt_of_lt_of_le hbw HX.out.size, fun i hi => (HX.out.cell (by exact hbw)).trans (HC.out i hi)⟩
          have hrun := fun w' => run_ks w b off k cap at0 xs HB.out (by omega) HM.out (by have := HL.out; omega) w'
          rw [hf] at hrun
          have hsl := fun w' => run_sl b off len cap at0 k (by omega) (by omega) w'
          have hwr : IntKind.i64.wrap ((at0 : Int) + (k : Int)) = (at0 : Int) + (k : Int) := IntWalk.i64_in _ (by omega)
          clear hb2 hbel HCr hf HT2 HVA HT HZ HD
          refine wp_region_noPanic ?_
          go_region_held (fun w' => KS w b off xs w') (first | exact KS.drew hKS | assumption)
            (first | (go_at_call 27; refine (ursize_any _ _ (by omega) (by omega)).mono ?_; rintro e w' ⟨rfl, rfl⟩) | (go_at_call 28; refine (rform_ks _ w b off xs HS0.out _ ?_).mono ?_; assumption; rintro e w' ⟨g, m, rfl, hks, hkf⟩; have hrf := run_kf _ _ _ HS0.out _ hkf))
          all_goals (refine NoPanic.normal ?_)
          go_wp2
          go_ret2
          rw [HR.out]
          exact ⟨rfl, (‹KS w b off xs _› : KS w b off xs _).1⟩
        · have hne : Hid (str (Utf.form rv) ≠ str ((xs.drop at0).take k)) := fun h => hf (str_inj (Utf.form_bytes HS0.out) (HBD.out.take k) h).symm
          have HN : Hid (∀ j : Nat, 1 ≤ j → j < k + 1 → (Utf.read (xs.drop at0)).2 ≠ j) := by
            intro j h1 h2
            by_cases hj : j = k
            · subst hj
              exact HNK.out hf
            · exact hno.out j h1 (by omega)
          go_wp2_with (first | (go_at_call 30; refine HVA.out.mono ?_; rintro e w2 ⟨rfl, hb2⟩))
          have HX := hide (hbel.out.trans (hb2.mono hbel.out.size))
          have hKS : KS w b off xs w2 := ⟨HX.out, Nat.lt_of_lt_of_le hbw HX.out.size, fun i hi => (HX.out.cell (by exact hbw)).trans (HC.out i hi)⟩
          have hrun := fun w' => run_ks w b off k cap at0 xs HB.out (by omega) HM.out (by have := HL.out; omega) w'
          have hne' : ((str (Utf.form rv)).toList == (str ((xs.drop at0).take k)).toList) = false := by
            rw [beq_eq_false_iff_ne]
            exact fun h => hne.out (toList_inj h)
          generalize str ((xs.drop at0).take k) = s2 at *
          have hsl := fun w' => run_sl b off len cap at0 k (by omega) (by omega) w'
          have hwr : IntKind.i64.wrap ((at0 : Int) + (k : Int)) = (at0 : Int) + (k : Int) := IntWalk.i64_in _ (by omega)
          clear hb2 hbel HCr hf HT2 HVA HT HZ HD
          refine wp_region_noPanic ?_
          go_region_held (fun w' => KS w b off xs w') (first | exact KS.drew hKS | assumption)
            (first | (go_at_call 27; refine (ursize_any _ _ (by omega) (by omega)).mono ?_; rintro e w' ⟨rfl, rfl⟩) | (go_at_call 28; refine (rform_ks _ w b off xs HS0.out _ ?_).mono ?_; assumption; rintro e w' ⟨g, m, rfl, hks, hkf⟩; have hrf := run_kf _ _ _ HS0.out _ hkf))
          all_goals (refine NoPanic.normal ?_)
          go_wp2
          go_roundw
          case rel => exact ⟨k + 1, by omega, by omega, by go_num, HN, (‹KS w b off xs _› : KS w b off xs _).1⟩
          case measure => simp [intOf]; omega
      · have hnk : (Utf.read (xs.drop at0)).2 ≠ k := by
          intro hr
          have h0 : (Utf.read (xs.drop at0)).2 ≠ 0 := by omega
          have e1 := HV.out h0
          have e2 := (HF.out h0).2
          rw [hr] at e1 e2
          rw [show ((k : Int)).toNat = k from by omega] at e1
          rw [e1] at hs
          exact hs e2
        have HN : Hid (∀ j : Nat, 1 ≤ j → j < k + 1 → (Utf.read (xs.drop at0)).2 ≠ j) := by
          intro j h1 h2
          by_cases hj : j = k
          · subst hj; exact hnk
          · exact hno.out j h1 (by omega)
        have hvb := Utf.val_bounds HBD.out k
        generalize hrv : Utf.val k (xs.drop at0) = rv at *
        obtain ⟨hvb0, hvb1⟩ := hvb
        have hs' : (Utf.size rv == k) = false := by simp [hs]
        clear hnk hno hs HV HF hrv
        go_wp2_with (first | (go_at_call 30; refine HVA.out.mono ?_; rintro e w2 ⟨rfl, hb2⟩))
        have HX := hide (hbel.out.trans (hb2.mono hbel.out.size))
        clear hb2 hbel
        go_quiet ((go_at_call 27; exact Calls.quiet_of_same (rsize_q _ _ (by omega) (by omega))))
        go_wp2
        go_roundw
        case rel => exact ⟨k + 1, by omega, by omega, by go_num, HN, below_drewN HX.out _⟩
        case measure => simp [intOf]; omega
    · have hz : (Utf.read (xs.drop at0)).2 = 0 := by
        by_cases h0 : (Utf.read (xs.drop at0)).2 = 0
        · exact h0
        have hd := HD.out
        exact absurd (by omega) (hno.out (Utf.read (xs.drop at0)).2.toNat (by omega) (by omega))
      have HR := hide (HZ.out hz)
      clear hz hno
      by_cases hk4 : k ≤ 4
      · have hak : ¬ at0 + k ≤ len := by omega
        clear hgo
        go_wp2
        go_ret2
        rw [HR.out]
        exact ⟨rfl, hbel.out⟩
      · clear hgo
        go_wp2
        go_ret2
        rw [HR.out]
        exact ⟨rfl, hbel.out⟩
end Go.Proofs.YtfcoebbblfcdoaaGreatDoor

/- Plain mathematics: what is read of a beginning of bytes; heads of forms. -/
namespace Go.Proofs.YtfcoebbblfcdoaaGreatDoor
set_option linter.unusedVariables false
theorem Utf.read_take {ys : List Int} {q : Nat} (hb : Bytes ys) (h0 : (Utf.read ys).2 ≠ 0) (hq : (Utf.read ys).2.toNat ≤ q) : Utf.read (ys.take q) = Utf.read ys := by
  obtain ⟨e1, e2⟩ := Utf.form_read h0 hb
  have hbd := Utf.read_bounds ys
  have : Utf.read (ys.take q) = ((Utf.read ys).1, (((Utf.read ys).2.toNat : Nat) : Int)) := by
    refine Utf.read_of_take (by omega) (by omega) ?_
    rw [List.take_take, e1]
    congr 1
    omega
  rw [this]
  have h2 : ((((Utf.read ys).2.toNat : Nat)) : Int) = (Utf.read ys).2 := by omega
  rw [h2]
theorem Utf.read_cut {ys : List Int} {q : Nat} (hb : Bytes ys) (h : (Utf.read ys).2 = 0 ∨ q < (Utf.read ys).2.toNat) : (Utf.read (ys.take q)).2 = 0 := by
  by_cases h0 : (Utf.read (ys.take q)).2 = 0
  · exact h0
  exfalso
  obtain ⟨e1, e2⟩ := Utf.form_read h0 (hb.take q)
  have hbd := Utf.read_bounds (ys.take q)
  rw [List.length_take] at hbd
  have : Utf.read ys = ((Utf.read (ys.take q)).1, (((Utf.read (ys.take q)).2.toNat : Nat) : Int)) := by
    refine Utf.read_of_take (by omega) (by omega) ?_
    rw [e1, List.take_take]
    congr 1
    omega
  rw [this] at h
  simp only at h
  omega
end Go.Proofs.YtfcoebbblfcdoaaGreatDoor

/- The contracts of the document's Decode and Cut. -/
namespace Go.Proofs.YtfcoebbblfcdoaaGreatDoor
open Go.RowKit
set_option linter.unusedVariables false
set_option maxRecDepth 100000
theorem Utf.Part.more {xs : List Int} {k e : Nat} (h : Utf.Part xs k e) (h0 : (Utf.read (xs.drop e)).2 ≠ 0) : k < (Utf.dec xs).1.length := by
  have h2 := h.2.1
  rw [Utf.dec_step h0] at h2
  have := congrArg List.length h2
  simp at this
  omega
theorem Utf.Part.none {xs : List Int} {k e : Nat} (h : Utf.Part xs k e) (h0 : (Utf.read (xs.drop e)).2 = 0) : (Utf.dec xs).2 = e := by
  have h2 := h.2.2
  rw [Utf.dec_stop h0] at h2
  simpa using h2
theorem Utf.Part.all {xs : List Int} {k e : Nat} (h : Utf.Part xs k e) (he : e = xs.length) : (Utf.dec xs).1.take k = (Utf.dec xs).1 ∧ (Utf.dec xs).2 = e := by
  have hz : (Utf.read (xs.drop e)).2 = 0 := by rw [List.drop_of_length_le (by omega)]; rfl
  refine ⟨?_, h.none hz⟩
  have h2 := h.2.1
  rw [Utf.dec_stop hz] at h2
  have := List.take_append_drop k (Utf.dec xs).1
  rw [h2] at this
  simpa using this
theorem one_close {base k : Nat} {v v' : Value} {D : List Int} {x : Int} {w w1 w2 : World} (hb : Below base w1 w) (hB : base ≤ w.heap.size) (hk : k < D.length) (hx : x = D.getD k 0) (hown : w.ownsRow base 21 1 v k ((D.take k).map (Value.int .i32)))
    (h1 : w2.ownsRow base 21 1 v' (k + 1) ((D.take k).map (Value.int .i32) ++ [.int .i32 x])) (hg : (w.alloc (.cells #[.int .i32 x] 21)).grownBy w2 v.ownBlock) :
    w2.ownsRow base 21 1 v' (k + 1) ((D.take (k + 1)).map (Value.int .i32)) ∧ Below base w1 w2 := by
  subst hx
  rw [Utf.take_snoc D k hk, List.map_append]
  exact ⟨h1, hb.trans (((Below.refl base w).alloc hB _).grown hg (by simp; omega) (fun k hk => (hown.lt k hk).1))⟩
set_option maxHeartbeats 2000000 in
theorem rdecode_any (ao : Option Addr) (n cap : Nat) (xs : List Int) (w : World) (h : Row .u8 w ao n cap xs) (hb : Bytes xs) (hsz : n ≤ 35184372088831) :
    Calls Tryz.prog 5 #[.slice ao n cap] w fun e w' => (((Utf.dec xs).2 < n ∧ e = .returned (.tuple #[.slice none 0 0, .int .i64 (Utf.dec xs).2, .int .i64 10])) ∨
      ((Utf.dec xs).2 = n ∧ ∃ v, e = .returned (.tuple #[v, .int .i64 0, .int .i64 0]) ∧ w'.ownsRow w.heap.size 21 1 v (Utf.dec xs).1.length ((Utf.dec xs).1.map (Value.int .i32)))) ∧ Below w.heap.size w w' := by
  have hml := Utf.dec_le xs.length xs (Nat.le_refl _)
  have hle := h.le
  have HMX := hide h.max
  have hmx := h.max
  unfold maxLen at hmx
  have HL := hide h.len
  have HR := hide h
  have HB := hide hb
  have HML := hide hml
  clear h hb hml
  obtain ⟨i21, hi, hz0, hz1, hz2⟩ := info_parts Tryz.info21
  have HI : Hid (Tryz.prog.info? 21 = some i21) := hi
  have HZ0 := hide hz0
  have HZ1 := hide hz1
  have HZ2 := hide hz2
  clear hi hz0 hz1 hz2
  go_enter Tryz.func5, Tryz.ntmps5
  go_wp2
  go_loopw [5, 6] (fun v a wr => ∃ k e : Nat, e ≤ n ∧ k ≤ e ∧ a = .int .i64 e ∧ Hid (Utf.Part xs k e) ∧ Hid (wr.ownsRow w.heap.size 21 1 v k (((Utf.dec xs).1.take k).map (Value.int .i32))) ∧ Hid (Below w.heap.size w wr)) (fun _ a _ => n - (intOf a).toNat)
  case atStart => exact ⟨0, 0, Nat.zero_le _, Nat.le_refl _, rfl, Utf.Part.start xs, World.ownsRow_nil _ _ _ _, Below.refl _ _⟩
  case round =>
    obtain ⟨k, e, he, hke, rfl, hp, hown, hbw⟩ := hrel
    by_cases hlt : e < n
    · obtain ⟨b, off, rfl, hbl, hc⟩ := HR.out.cells (by omega)
      have hrd := hide (at_any b off n cap e xs wr HMX.out hle HL.out hlt (Nat.lt_of_lt_of_le hbl hbw.out.size) (fun i hi => (hbw.out.cell (by exact hbl)).trans (hc i hi)) HB.out (by omega))
      have hbd := Utf.read_bounds (xs.drop e)
      rw [List.length_drop, HL.out] at hbd
      by_cases hz : (Utf.read (xs.drop e)).2 = 0
      · have HN := hide (hp.out.none hz)
        rcases hR : Utf.read (xs.drop e) with ⟨v, s⟩
        rw [hR] at hrd hz
        simp only at hz
        subst hz
        clear hR hown hc hbd
        go_wp2_with (go_at_call 15; refine hrd.out.mono ?_; rintro e w' ⟨rfl, hb2⟩)
        go_ret3
        refine ⟨.inl ⟨by rw [HN.out]; exact hlt, by rw [HN.out]; rfl⟩, hbw.out.trans (hb2.mono hbw.out.size)⟩
      · have hmore := hp.out.more hz
        obtain ⟨s0, s1, s2, s3⟩ := hp.out.step hmore
        have HS1 := hide s1
        have HS2 := hide s2
        have HMO := hide hmore
        rcases hR : Utf.read (xs.drop e) with ⟨v, s⟩
        rw [hR] at hrd hz HS1 HS2 hbd
        simp only at hz hbd
        have hz' : (s == 0) = false := by simp [hz]
        obtain ⟨hbd1, hbd2, hbd3, _⟩ := hbd
        clear hR hc s0 s1 s2 s3 hmore hp
        go_wp2_with fail
        refine hrd.out.mono ?_
        rintro e' w2 ⟨rfl, hb2⟩
        have HO2 := hide (owns_below hown.out hb2)
        have HB2 := hide (hbw.out.trans (hb2.mono hbw.out.size))
        clear hown hbw hb2
        go_wp2_with (first | (at_builtin; refine wpList_append_own _ rfl _ _ 23 rfl w.heap.size 21 i21 (.int .i32 0) 1 4 Tryz.underlying23 HI.out HZ0.out HZ1.out HZ2.out rfl (by decide) _ _ _ rfl (HO2.out.alloc _) ⟨w2.heap.size, 0, none⟩ 1 1 [.int .i32 v] rfl rfl ?c1 ?c2 ?c3 ?c4 ?c5 ?_))
        case c1 => exact World.news_of_block (heap_alloc_new w2 _)
        case c2 => exact ints_oneCell .i32 [v]
        case c3 => unfold maxLen; omega
        case c4 => omega
        case c5 => have := HB2.out.size; simp; omega
        intro v3 w3 hown3 hgrow3 _
        rw [← List.map_take] at hown3
        have HX := hide (one_close HB2.out HB2.out.size HMO.out HS1.out HO2.out hown3 hgrow3)
        clear hown3 hgrow3
        go_wp2
        go_roundw
        case rel => exact ⟨k + 1, e + s.toNat, by omega, by omega, by go_num, HS2, HX.out.1, HX.out.2⟩
        case measure => simp [intOf]; omega
    · obtain ⟨h1, h2⟩ := hp.out.all (by have := HL.out; omega)
      rw [h1] at hown
      have hkl : k = (Utf.dec xs).1.length := by have := hown.out.1; simp at this; omega
      rw [hkl] at hown
      have hen : e = n := by omega
      have HE := hide (h2.trans hen)
      clear h1 h2 hkl hen
      go_wp2
      go_ret3
      exact ⟨.inr ⟨HE.out, _, rfl, hown.out⟩, hbw.out⟩
/-- What the loop of the document's Cut knows: the greatest place at which a text ends, up to m. -/
def Best (xs : List Int) (m : Int) (e best : Nat) : Prop := e ≤ xs.length ∧ best ≤ e ∧ ((e : Int) ≤ m → best = e) ∧ (Utf.dec (xs.take m.toNat)).2 = (if (e : Int) ≤ m then e + (Utf.dec ((xs.drop e).take (m.toNat - e))).2 else best)
theorem Best.start (xs : List Int) (m : Int) : Best xs m 0 0 := by
  refine ⟨Nat.zero_le _, Nat.le_refl _, fun _ => rfl, ?_⟩
  split
  · simp
  · rw [show m.toNat = 0 from by omega]; simp [Utf.dec_nil]
theorem Best.stop {xs : List Int} {m : Int} {e best : Nat} (hb : Bytes xs) (h : Best xs m e best) (h0 : (Utf.read (xs.drop e)).2 = 0) : (Utf.dec (xs.take m.toNat)).2 = best := by
  obtain ⟨h1, h2, h3, h4⟩ := h
  rw [h4]
  split
  · rename_i hle
    rw [Utf.dec_stop (Utf.read_cut (hb.drop e) (.inl h0)), h3 hle]
    rfl
  · rfl
theorem Best.step {xs : List Int} {m : Int} {e best : Nat} (hb : Bytes xs) (h : Best xs m e best) (h0 : (Utf.read (xs.drop e)).2 ≠ 0) :
    Best xs m (e + (Utf.read (xs.drop e)).2.toNat) (if ((e + (Utf.read (xs.drop e)).2.toNat : Nat) : Int) ≤ m then e + (Utf.read (xs.drop e)).2.toNat else best) := by
  obtain ⟨h1, h2, h3, h4⟩ := h
  have hbd := Utf.read_bounds (xs.drop e)
  rw [List.length_drop] at hbd
  by_cases hm : ((e + (Utf.read (xs.drop e)).2.toNat : Nat) : Int) ≤ m
  · rw [if_pos hm]
    refine ⟨by omega, Nat.le_refl _, fun _ => rfl, ?_⟩
    rw [if_pos hm, h4, if_pos (by omega)]
    have hr := Utf.read_take (q := m.toNat - e) (hb.drop e) h0 (by omega)
    rw [Utf.dec_step (by rw [hr]; exact h0), hr]
    simp only
    rw [List.drop_take, List.drop_drop, show m.toNat - e - (Utf.read (xs.drop e)).2.toNat = m.toNat - (e + (Utf.read (xs.drop e)).2.toNat) from by omega]
    omega
  · rw [if_neg hm]
    refine ⟨by omega, by omega, fun h => absurd h hm, ?_⟩
    rw [if_neg hm, h4]
    split
    · rename_i hle
      rw [Utf.dec_stop (Utf.read_cut (hb.drop e) (.inr (by omega))), h3 hle]
      rfl
    · rfl
end Go.Proofs.YtfcoebbblfcdoaaGreatDoor
