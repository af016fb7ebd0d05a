/- The contracts of Decode. -/
import Derived.Test.YtkcalmighgdojabStr
namespace Go.Proofs.Ytkcalmighgdojab
open Go.RowKit
set_option linter.unusedVariables false
theorem Try.info21 : (Try.prog.info? 21).map (fun i => (i.zero, i.size, i.bytes)) = some (some (.int .i32 0), 1, 4) := by kernel_rfl
set_option maxHeartbeats 1000000 in
theorem decode_no (ao : Option Addr) (n cap : Nat) (xs : List Int) (w : World) (h : Row .u8 w ao n cap xs) (hb : Bytes xs) (hw : (Utf.dec xs).2 < n) :
    Calls Try.prog 9 #[.slice ao n cap] w fun e w' => e = .returned (.tuple #[.slice none 0 0, .int .i64 (Utf.dec xs).2, .int .i64 10]) ∧ w = w' := by
  have hd := hide (measure_any ao n cap xs w h hb)
  generalize (Utf.dec xs).2 = m at *
  clear h
  go_enter Try.func9, Try.ntmps9
  go_wp2_with (go_at_call 12; refine hd.out.mono ?_; rintro e w' ⟨rfl, rfl⟩)
  go_ret3
  exact ⟨rfl, rfl⟩
set_option maxHeartbeats 1000000 in
theorem decode_yes (ao : Option Addr) (n cap : Nat) (xs : List Int) (w : World) (h : Row .u8 w ao n cap xs) (hb : Bytes xs) (hw : (Utf.dec xs).2 = n) (hsz : n ≤ 35184372088832) :
    Calls Try.prog 9 #[.slice ao n cap] w fun e w' => ∃ v, e = .returned (.tuple #[v, .int .i64 0, .int .i64 0]) ∧ w'.ownsRow w.heap.size 21 1 v (Utf.dec xs).1.length ((Utf.dec xs).1.map (Value.int .i32)) ∧ Below w.heap.size w w' := by
  have hd := hide (measure_any ao n cap xs w h hb)
  rw [hw] at hd
  have hml := (Utf.dec_le xs.length xs (Nat.le_refl _)).2
  rw [hw] at hml
  have hle := h.le
  have hmx := h.max
  unfold maxLen at hmx
  have HL := hide h.len
  have HW := hide hw
  have HR := hide h
  have HB := hide hb
  generalize hm : (Utf.dec xs).1.length = m at *
  have HM := hide hm
  clear h hm hw hb
  obtain ⟨i21, hi, hz0, hz1, hz2⟩ := info_parts Try.info21
  have HI : Hid (Try.prog.info? 21 = some i21) := hi
  have HZ0 := hide hz0
  have HZ1 := hide hz1
  have HZ2 := hide hz2
  clear hi hz0 hz1 hz2
  go_enter Try.func9, Try.ntmps9
  go_wp2_with (first | (go_at_call 12; refine hd.out.mono ?_; rintro e w' ⟨rfl, rfl⟩) | (at_make; refine wpList_make_full _ rfl _ _ 22 rfl w.heap.size 21 i21 (.int .i32 0) 1 Try.underlying22 HI.out HZ0.out HZ1.out _ _ _ _ m rfl rfl rfl rfl ?b2 ?b3 (Nat.le_refl _) ?_))
  case b2 => rw [HZ2.out]; omega
  case b3 => unfold maxLen; omega
  intro w1 hown hgrow
  have hbel := hide ((Below.refl w.heap.size w).grown hgrow (Nat.le_refl _) (fun _ h => by cases h))
  have HO : Hid (w1.ownsRow w.heap.size 21 1 (.slice (some ⟨w.heap.size, 0, none⟩) m m) m ((Utf.fill (Utf.dec xs).1 m 0).map (Value.int .i32))) := by
    have e : (madeCells #[Value.int .i32 0] m).toList = (Utf.fill (Utf.dec xs).1 m 0).map (Value.int .i32) := by
      rw [Utf.fill_zero]
      simp [toList_madeCells_one]
    rw [← e]; exact hown
  clear hown hgrow
  go_wp2
  go_loopw [8, 26] (fun a i wr => ∃ k e : Nat, k ≤ m ∧ e ≤ n ∧ i = .int .i64 k ∧ a = .int .i64 e ∧ Hid (Utf.Part xs k e) ∧ Hid (wr.ownsRow w.heap.size 21 1 (.slice (some ⟨w.heap.size, 0, none⟩) m m) m ((Utf.fill (Utf.dec xs).1 m k).map (Value.int .i32))) ∧ Hid (Below w.heap.size w wr)) (fun _ i _ => m - (intOf i).toNat)
  case atStart => exact ⟨0, 0, Nat.zero_le _, Nat.zero_le _, rfl, rfl, Utf.Part.start xs, HO, hbel⟩
  case round =>
    obtain ⟨k, e, hk, he, rfl, rfl, hp, hown, hbw⟩ := hrel
    by_cases hlt : k < m
    · obtain ⟨s0, s1, s2, s3⟩ := hp.out.step (by have := HM.out; omega)
      have hen : e < n := by have := HL.out; omega
      obtain ⟨b, off, rfl, hbl, hc⟩ := HR.out.cells (by omega)
      have hrd := hide (read_any b (off + e) (n - e) (cap - e) (xs.drop e) wr (by rw [List.length_drop, HL.out]) (by omega) (by omega) (by have := HR.out.max; omega) (HB.out.drop e) (fun i hi => (hbw.out.cell (by exact hbl)).trans (hc.drop e i hi)))
      have hbd := Utf.read_bounds (xs.drop e)
      rw [List.length_drop, HL.out] at hbd
      have hcell := hown.out.cellAt k (by omega)
      have hfz := hown.out.frozenAt k
      rw [List.getElem?_map, List.getElem?_eq_getElem (by rw [Utf.fill_len _ _ _ HM.out hk]; omega)] at hcell
      simp only [Option.map_some] at hcell
      have hst := (hown.out.stored k (.int .i32 (Utf.read (xs.drop e)).1)).1
      rw [← List.map_set, s1, Utf.fill_step _ _ _ HM.out hlt, ← s1] at hst
      have HS := hide hst
      have H2 := hide s2
      have hbS := hide (hbw.out.setCell (p := ⟨w.heap.size, k, none⟩) (Nat.le_refl _) (.int .i32 (Utf.read (xs.drop e)).1))
      rcases hR : Utf.read (xs.drop e) with ⟨v, s⟩
      rw [hR] at hrd hbd HS H2 s0 hbS
      simp only at hbd s0
      obtain ⟨hb1, hb2, hb3, _⟩ := hbd
      have hz' : (s == 0) = false := by simp [s0]
      generalize (Utf.fill (Utf.dec xs).1 m k)[k]'_ = old at hcell
      clear hR s1 s2 hst hown hc hp
      go_wp2_with (go_at_call 13; refine hrd.out.mono ?_; rintro e w' ⟨rfl, rfl⟩)
      go_roundw
      case rel => exact ⟨k + 1, e + s.toNat, by omega, by omega, by go_num, by go_num, H2, HS, hbS⟩
      case measure => simp [intOf]; omega
    · obtain rfl : k = m := by omega
      rw [Utf.fill_all _ _ HM.out] at hown
      go_wp2
      go_ret3
      exact ⟨_, rfl, hown.out, hbw.out⟩
end Go.Proofs.Ytkcalmighgdojab
