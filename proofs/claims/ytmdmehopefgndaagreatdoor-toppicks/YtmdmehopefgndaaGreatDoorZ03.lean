import Derived.Test.YtmdmehopefgndaaGreatDoorZ02
import Derived.Laws.IdiomStrings
/- The contracts of Encode. -/
namespace Go.Proofs.YtmdmehopefgndaaGreatDoor
open Go.RowKit
set_option linter.unusedVariables false
set_option maxHeartbeats 1000000 in
theorem encode_bad (ao : Option Addr) (n cap : Nat) (l : List Int) (w : World) (h : Row .i32 w ao n cap l) (hsz : n * 4 ≤ 140737488351232) (j : Nat) (hj : j < n) (hb : Utf.size (l.getD j 0) = 0) (hf : ∀ i, i < j → Utf.size (l.getD i 0) ≠ 0) :
    Calls Tryz.prog 6 #[.slice ao n cap] w fun e w' => e = .returned (.tuple #[.slice none 0 0, .int .i64 j, .int .i64 11]) ∧ w = w' := by
  obtain ⟨b, off, rfl, _, hc⟩ := h.cells (by omega)
  have hl := h.len
  have HC := hide hc
  have HF := hide hf
  have HB := hide hb
  have HL := hide hl
  clear hc hf hb h hl
  go_enter Tryz.func6, Tryz.ntmps6
  go_wp2
  go_loop [5, 14] (fun t i => ∃ (k : Nat) (s : Int), k ≤ j ∧ i = .int .i64 k ∧ t = .int .i64 s ∧ 0 ≤ s ∧ s ≤ 4 * k) (fun _ i => n - (intOf i).toNat)
  case atStart => exact ⟨0, 0, Nat.zero_le _, rfl, rfl, by omega, by omega⟩
  case round =>
    obtain ⟨k, s, hk, rfl, rfl, hs0, hs1⟩ := hrel
    have hck := HC.out k (by have := HL.out; omega)
    by_cases hlt : k < j
    · have hq := HF.out k hlt
      have hbd := Utf.size_bounds (l.getD k 0)
      generalize l.getD k 0 = x at *
      have hq' : (Utf.size x == 0) = false := by simp [hq]
      go_wp2_with (go_at_call 14; refine (size_any _ _).mono ?_; rintro e w' ⟨rfl, rfl⟩)
      go_round
      case rel => exact ⟨k + 1, _, by omega, by go_num, rfl, by omega, by omega⟩
      case measure => simp [intOf]; omega
    · obtain rfl : k = j := by omega
      have hq := HB.out
      generalize l.getD k 0 = x at *
      have hq' : (Utf.size x == 0) = true := by simp [hq]
      clear hq HB HF
      go_wp2_with (go_at_call 14; refine (size_any _ _).mono ?_; rintro e w' ⟨rfl, rfl⟩)
      go_ret3
      exact ⟨rfl, rfl⟩
set_option maxHeartbeats 2000000 in
theorem encode_ok (ao : Option Addr) (n cap : Nat) (l : List Int) (w : World) (h : Row .i32 w ao n cap l) (hsz : n * 4 ≤ 140737488351232) (hok : ∀ x ∈ l, Utf.size x ≠ 0) :
    Calls Tryz.prog 6 #[.slice ao n cap] w fun e w' => ∃ v, e = .returned (.tuple #[v, .int .i64 0, .int .i64 0]) ∧ w'.ownsRow w.heap.size 5 1 v (Utf.enc l).length ((Utf.enc l).map (Value.int .u8)) ∧ Below w.heap.size w w' := by
  have hl := h.len
  have HR := hide h
  have HL := hide hl
  have HO := hide hok
  clear h hl hok
  obtain ⟨i5, hi, hz0, hz1, hz2⟩ := info_parts Tryz.info5
  have HI : Hid (Tryz.prog.info? 5 = some i5) := hi
  have HZ0 := hide hz0
  have HZ1 := hide hz1
  have HZ2 := hide hz2
  clear hi hz0 hz1 hz2
  go_enter Tryz.func6, Tryz.ntmps6
  go_wp2
  go_loop [5, 14] (fun t i => ∃ (k : Nat) (s : Int), k ≤ n ∧ i = .int .i64 k ∧ t = .int .i64 s ∧ 0 ≤ s ∧ s ≤ 4 * k) (fun _ i => n - (intOf i).toNat)
  case atStart => exact ⟨0, 0, Nat.zero_le _, rfl, rfl, by omega, by omega⟩
  case round =>
    obtain ⟨k, s, hk, rfl, rfl, hs0, hs1⟩ := hrel
    by_cases hlt : k < n
    · obtain ⟨b, off, rfl, _, hc⟩ := HR.out.cells (by omega)
      have hck := hc k (by have := HL.out; omega)
      have hq := Utf.scalar_at HO.out (k := k) (by have := HL.out; omega)
      have hbd := Utf.size_bounds (l.getD k 0)
      clear hc
      generalize l.getD k 0 = x at *
      have hq' : (Utf.size x == 0) = false := by simp [hq]
      go_wp2_with (go_at_call 14; refine (size_any _ _).mono ?_; rintro e w' ⟨rfl, rfl⟩)
      go_round
      case rel => exact ⟨k + 1, _, by omega, by go_num, rfl, by omega, by omega⟩
      case measure => simp [intOf]; omega
    · obtain rfl : k = n := by omega
      obtain ⟨m, rfl⟩ := Int.eq_ofNat_of_zero_le hs0
      go_wp2_with (first | (at_make; refine wpList_make_own _ rfl _ _ 22 rfl w.heap.size 5 i5 (.int .u8 0) 1 Tryz.underlying22 HI.out HZ0.out HZ1.out _ _ _ m rfl rfl rfl ?b2 ?b3 ?b4 ?_))
      case b2 => rw [HZ2.out]; omega
      case b3 => unfold maxLen; omega
      intro w1 hown hgrow
      have hbel := hide ((Below.refl w.heap.size w).grown hgrow (Nat.le_refl _) (fun _ h => by cases h))
      have HW := hide hown
      clear hown hgrow
      go_wp2
      go_loopw [9, 32] (fun v i wr => ∃ q : Nat, q ≤ k ∧ i = .int .i64 q ∧ Hid (wr.ownsRow w.heap.size 5 1 v (Utf.enc (l.take q)).length ((Utf.enc (l.take q)).map (Value.int .u8))) ∧ Hid (Below w.heap.size w wr)) (fun _ i _ => k - (intOf i).toNat)
      case atStart => exact ⟨0, Nat.zero_le _, rfl, HW, hbel⟩
      case round =>
        obtain ⟨q, hq, rfl, hown, hbw⟩ := hrel
        by_cases hlt2 : q < k
        · obtain ⟨b, off, rfl, hbl, hc⟩ := HR.out.cells (by omega)
          have hck := (hbw.out.cell (by exact hbl)).trans (hc q (by have := HL.out; omega))
          have hsc := Utf.scalar_at HO.out (k := q) (by have := HL.out; omega)
          have hel := Utf.enc_le (l.take q)
          have hle : (l.take q).length ≤ q := List.length_take_le _ _
          have HA := hide (append_any w.heap.size _ _ _ (l.getD q 0) wr hown.out hbw.out.size (by omega) hsc)
          have HS := hide (Utf.enc_snoc l q (by have := HL.out; omega))
          clear hc hsc hel hle hown
          generalize l.getD q 0 = x at *
          go_wp2_with (go_at_call 15; refine HA.out.mono ?_; rintro e w2 ⟨v2, rfl, ho2, hb2⟩)
          have HB2 := hide (hbw.out.trans hb2)
          have HO2 := hide ho2
          clear ho2 hb2
          go_wp2
          go_roundw
          case rel => exact ⟨q + 1, by omega, by go_num, by rw [HS.out, List.length_append]; exact HO2, HB2⟩
          case measure => simp [intOf]; omega
        · obtain rfl : q = k := by omega
          have ht : l.take q = l := List.take_of_length_le (by have := HL.out; omega)
          rw [ht] at hown
          go_wp2
          go_ret3
          exact ⟨_, rfl, hown.out, hbw.out⟩
end Go.Proofs.YtmdmehopefgndaaGreatDoor

/- string(b) of a row of bytes. -/
namespace Go.Proofs.YtmdmehopefgndaaGreatDoor
open Go.RowKit
set_option linter.unusedVariables false
/-- The text of bytes. -/
def str (zs : List Int) : ByteArray := ⟨(zs.map (fun z => UInt8.ofNat z.toNat)).toArray⟩
theorem byte_back {z : Int} (h0 : 0 ≤ z) (h1 : z ≤ 255) : ((UInt8.ofNat z.toNat).toNat : Int) = z := by
  rw [UInt8.toNat_ofNat']
  omega
theorem run_str (w : World) (ao : Option Addr) (n cap : Nat) (zs : List Int) (h : Row .u8 w ao n cap zs) (hb : Bytes zs) :
    (convert 22 9 (.slice ao n cap)).run Tryz.prog w = .ok (.string (str zs)) w := by
  by_cases h0 : 0 < n
  · obtain ⟨b, off, rfl, _, hc⟩ := h.cells h0
    have hl : (zs.map (fun z => UInt8.ofNat z.toNat)).length = n := by simp [h.len]
    have := run_convert_bytes_back (P := Tryz.prog) w 22 9 5 ⟨b, off, none⟩ cap (zs.map (fun z => UInt8.ofNat z.toNat)) Tryz.underlying22 Tryz.underlying5 Tryz.underlying9 (fun j hj => by
      have hj' : j < zs.length := by simpa using hj
      have hadd : (⟨b, off, none⟩ : Addr).add j = ⟨b, off + j, none⟩ := by unfold Addr.add; split <;> simp_all
      rw [hadd, hc j hj']
      have e : zs.getD j 0 = zs[j] := by simp [List.getD, List.getElem?_eq_getElem hj']
      rw [e]
      have hbz := hb zs[j] (List.getElem_mem _)
      simp only [List.getElem_map]
      rw [byte_back hbz.1 hbz.2])
    rw [hl] at this
    exact this
  · obtain rfl : n = 0 := by omega
    obtain rfl : zs = [] := List.length_eq_zero_iff.1 h.len
    rw [run_convert_bytes_string w 22 9 5 ao 0 cap Tryz.underlying22 Tryz.underlying5 Tryz.underlying9]
    cases ao <;> rfl
end Go.Proofs.YtmdmehopefgndaaGreatDoor

/- The contracts of Decode. -/
namespace Go.Proofs.YtmdmehopefgndaaGreatDoor
open Go.RowKit
set_option linter.unusedVariables false
theorem Tryz.info21 : (Tryz.prog.info? 21).map (fun i => (i.zero, i.size, i.bytes)) = some (some (.int .i32 0), 1, 4) := by kernel_rfl
set_option maxHeartbeats 1000000 in
theorem decode_no (ao : Option Addr) (n cap : Nat) (xs : List Int) (w : World) (h : Row .u8 w ao n cap xs) (hb : Bytes xs) (hw : (Utf.dec xs).2 < n) :
    Calls Tryz.prog 5 #[.slice ao n cap] w fun e w' => e = .returned (.tuple #[.slice none 0 0, .int .i64 (Utf.dec xs).2, .int .i64 10]) ∧ w = w' := by
  have hd := hide (measure_any ao n cap xs w h hb)
  generalize (Utf.dec xs).2 = m at *
  clear h
  go_enter Tryz.func5, Tryz.ntmps5
  go_wp2_with (go_at_call 12; refine hd.out.mono ?_; rintro e w' ⟨rfl, rfl⟩)
  go_ret3
  exact ⟨rfl, rfl⟩
set_option maxHeartbeats 1000000 in
theorem decode_yes (ao : Option Addr) (n cap : Nat) (xs : List Int) (w : World) (h : Row .u8 w ao n cap xs) (hb : Bytes xs) (hw : (Utf.dec xs).2 = n) (hsz : n ≤ 35184372088832) :
    Calls Tryz.prog 5 #[.slice ao n cap] w fun e w' => ∃ v, e = .returned (.tuple #[v, .int .i64 0, .int .i64 0]) ∧ w'.ownsRow w.heap.size 21 1 v (Utf.dec xs).1.length ((Utf.dec xs).1.map (Value.int .i32)) ∧ Below w.heap.size w w' := by
  have hd := hide (measure_any ao n cap xs w h hb)
  rw [hw] at hd
  have hml := (Utf.dec_le xs.length xs (Nat.le_refl _)).2
  rw [hw] at hml
  have hle := h.le
  have hmx := h.max
  unfold maxLen at hmx
  have HL := hide h.len
  have HW := hide hw
  have HR := hide h
  have HB := hide hb
  generalize hm : (Utf.dec xs).1.length = m at *
  have HM := hide hm
  clear h hm hw hb
  obtain ⟨i21, hi, hz0, hz1, hz2⟩ := info_parts Tryz.info21
  have HI : Hid (Tryz.prog.info? 21 = some i21) := hi
  have HZ0 := hide hz0
  have HZ1 := hide hz1
  have HZ2 := hide hz2
  clear hi hz0 hz1 hz2
  go_enter Tryz.func5, Tryz.ntmps5
  go_wp2_with (first | (go_at_call 12; refine hd.out.mono ?_; rintro e w' ⟨rfl, rfl⟩) | (at_make; refine wpList_make_full _ rfl _ _ 28 rfl w.heap.size 21 i21 (.int .i32 0) 1 Tryz.underlying28 HI.out HZ0.out HZ1.out _ _ _ _ m rfl rfl rfl rfl ?b2 ?b3 (Nat.le_refl _) ?_))
  case b2 => rw [HZ2.out]; omega
  case b3 => unfold maxLen; omega
  intro w1 hown hgrow
  have hbel := hide ((Below.refl w.heap.size w).grown hgrow (Nat.le_refl _) (fun _ h => by cases h))
  have HO : Hid (w1.ownsRow w.heap.size 21 1 (.slice (some ⟨w.heap.size, 0, none⟩) m m) m ((Utf.fill (Utf.dec xs).1 m 0).map (Value.int .i32))) := by
    have e : (madeCells #[Value.int .i32 0] m).toList = (Utf.fill (Utf.dec xs).1 m 0).map (Value.int .i32) := by
      rw [Utf.fill_zero]
      simp [toList_madeCells_one]
    rw [← e]; exact hown
  clear hown hgrow
  go_wp2
  go_loopw [8, 26] (fun a i wr => ∃ k e : Nat, k ≤ m ∧ e ≤ n ∧ i = .int .i64 k ∧ a = .int .i64 e ∧ Hid (Utf.Part xs k e) ∧ Hid (wr.ownsRow w.heap.size 21 1 (.slice (some ⟨w.heap.size, 0, none⟩) m m) m ((Utf.fill (Utf.dec xs).1 m k).map (Value.int .i32))) ∧ Hid (Below w.heap.size w wr)) (fun _ i _ => m - (intOf i).toNat)
  case atStart => exact ⟨0, 0, Nat.zero_le _, Nat.zero_le _, rfl, rfl, Utf.Part.start xs, HO, hbel⟩
  case round =>
    obtain ⟨k, e, hk, he, rfl, rfl, hp, hown, hbw⟩ := hrel
    by_cases hlt : k < m
    · obtain ⟨s0, s1, s2, s3⟩ := hp.out.step (by have := HM.out; omega)
      have hen : e < n := by have := HL.out; omega
      obtain ⟨b, off, rfl, hbl, hc⟩ := HR.out.cells (by omega)
      have hrd := hide (read_any b (off + e) (n - e) (cap - e) (xs.drop e) wr (by rw [List.length_drop, HL.out]) (by omega) (by omega) (by have := HR.out.max; omega) (HB.out.drop e) (fun i hi => (hbw.out.cell (by exact hbl)).trans (hc.drop e i hi)))
      have hbd := Utf.read_bounds (xs.drop e)
      rw [List.length_drop, HL.out] at hbd
      have hcell := hown.out.cellAt k (by omega)
      have hfz := hown.out.frozenAt k
      rw [List.getElem?_map, List.getElem?_eq_getElem (by rw [Utf.fill_len _ _ _ HM.out hk]; omega)] at hcell
      simp only [Option.map_some] at hcell
      have hst := (hown.out.stored k (.int .i32 (Utf.read (xs.drop e)).1)).1
      rw [← List.map_set, s1, Utf.fill_step _ _ _ HM.out hlt, ← s1] at hst
      have HS := hide hst
      have H2 := hide s2
      have hbS := hide (hbw.out.setCell (p := ⟨w.heap.size, k, none⟩) (Nat.le_refl _) (.int .i32 (Utf.read (xs.drop e)).1))
      rcases hR : Utf.read (xs.drop e) with ⟨v, s⟩
      rw [hR] at hrd hbd HS H2 s0 hbS
      simp only at hbd s0
      obtain ⟨hb1, hb2, hb3, _⟩ := hbd
      have hz' : (s == 0) = false := by simp [s0]
      generalize (Utf.fill (Utf.dec xs).1 m k)[k]'_ = old at hcell
      clear hR s1 s2 hst hown hc hp
      go_wp2_with (go_at_call 13; refine hrd.out.mono ?_; rintro e w' ⟨rfl, rfl⟩)
      go_roundw
      case rel => exact ⟨k + 1, e + s.toNat, by omega, by omega, by go_num, by go_num, H2, HS, hbS⟩
      case measure => simp [intOf]; omega
    · obtain rfl : k = m := by omega
      rw [Utf.fill_all _ _ HM.out] at hown
      go_wp2
      go_ret3
      exact ⟨_, rfl, hown.out, hbw.out⟩
end Go.Proofs.YtmdmehopefgndaaGreatDoor
