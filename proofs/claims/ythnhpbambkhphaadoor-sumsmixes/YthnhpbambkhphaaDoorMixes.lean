/- The walk of the law on the exclusive or of three lists. -/
import Derived.Test.YthnhpbambkhphaaDoorCrcs
import Derived.Deep.RegionHeldLaw
namespace Go.Proofs.YthnhpbambkhphaaDoor
open Go.RowKit
set_option linter.unusedVariables false
/-- What stands while a byte is mixed in: nothing old has turned. -/
def KM (B : Nat) (w0 w : World) : Prop := Below B w0 w
theorem KM.drew {B : Nat} {w0 w : World} (h : KM B w0 w) : KM B w0 w.drew := Below.drew h
theorem mix_close {base q : Nat} {v' : Value} {f : Nat → Int} {y : Int} {L : List Value} {w2 : World} (hy : y = f q) (h1 : w2.ownsRow base 5 1 v' (q + 1) L)
    (hL : L = ((List.range q).map f).map (Value.int .u8) ++ [.int .u8 y]) : w2.ownsRow base 5 1 v' (q + 1) (((List.range (q + 1)).map f).map (Value.int .u8)) := by
  rw [List.range_succ, List.map_append, List.map_append, List.map_cons, List.map_nil, List.map_cons, List.map_nil, ← hy, ← hL]
  exact h1
theorem mixed_bytes {a b c : List Int} (ha : Bytes a) (hb : Bytes b) (hc : Bytes c) (n : Nat) : Bytes ((List.range n).map (Sums.mix a b c)) := by
  intro x hx
  obtain ⟨k, _, rfl⟩ := List.mem_map.1 hx
  exact Sums.mix_bytes ha hb hc k
theorem xor3_int (x y z : Nat) (hx : x < 4294967296) (hy : y < 4294967296) (hz : z < 4294967296) : bits .xor .u32 (bits .xor .u32 (x : Int) (y : Int)) (z : Int) = ((x ^^^ y ^^^ z : Nat) : Int) := by
  rw [u32_xor_nat _ _ hx hy, u32_xor_nat _ _ (Nat.xor_lt_two_pow (n := 32) hx hy) hz]
set_option maxHeartbeats 4000000 in
theorem SumsMixes_walk (w : World) (ht : Tab w) (a0 : Option Addr) (n0 cap0 : Nat) (xa : List Int) (h0 : Row .u8 w a0 n0 cap0 xa) (hf0 : ∀ x ∈ xa, (Lit.int .u8 x).wf = true) (hs0 : n0 * 1 ≤ 140737488351232)
    (a1 : Option Addr) (n1 cap1 : Nat) (xb : List Int) (h1 : Row .u8 w a1 n1 cap1 xb) (hf1 : ∀ x ∈ xb, (Lit.int .u8 x).wf = true) (hs1 : n1 * 1 ≤ 140737488351232)
    (a2 : Option Addr) (n2 cap2 : Nat) (xc : List Int) (h2 : Row .u8 w a2 n2 cap2 xc) (hf2 : ∀ x ∈ xc, (Lit.int .u8 x).wf = true) (hs2 : n2 * 1 ≤ 140737488351232) :
    Calls Tryd.prog 7 #[.slice a0 n0 cap0, .slice a1 n1 cap1, .slice a2 n2 cap2] w fun e w' => e = .returned (.bool true) ∧ Below w.heap.size w w' := by
  have HA := hide (Bytes.of_wf hf0)
  have HB := hide (Bytes.of_wf hf1)
  have HC := hide (Bytes.of_wf hf2)
  have HT := hide ht
  have H0 := hide h0
  have H1 := hide h1
  have H2 := hide h2
  have HW := hide (works_any _ ht)
  have e0 := h0.len
  have e1 := h1.len
  have e2 := h2.len
  have x0 := h0.le
  have x1 := h1.le
  have x2 := h2.le
  obtain ⟨m, hm0, hm1, hm2, hm⟩ : ∃ m : Nat, m ≤ n0 ∧ m ≤ n1 ∧ m ≤ n2 ∧ (m = n0 ∨ (m = n1 ∧ m < n0) ∨ (m = n2 ∧ m < n0 ∧ m < n1)) := ⟨min n0 (min n1 n2), by omega, by omega, by omega, by omega⟩
  have L0 : Hid (m ≤ xa.length) := by rw [e0]; exact hm0
  have L1 : Hid (m ≤ xb.length) := by rw [e1]; exact hm1
  have L2 : Hid (m ≤ xc.length) := by rw [e2]; exact hm2
  obtain ⟨i5, hi, hz0, hz1, hz2⟩ := info_parts info5
  have HI : Hid (Tryd.prog.info? 5 = some i5) := hi
  have HZ0 := hide hz0
  have HZ1 := hide hz1
  have HZ2 := hide hz2
  have hu0 := fun w' => run_upto Tryd.underlying22 hi cells5 a0 n0 cap0 m (by omega) w'
  have hu1 := fun w' => run_upto Tryd.underlying22 hi cells5 a1 n1 cap1 m (by omega) w'
  have hu2 := fun w' => run_upto Tryd.underlying22 hi cells5 a2 n2 cap2 m (by omega) w'
  have hms : m ≤ 140737488351232 := by omega
  have ib0 := hide (fun (q : Nat) (h : q < m) => (show (q : Int) < (n0 : Int) by omega))
  have ib1 := hide (fun (q : Nat) (h : q < m) => (show (q : Int) < (n1 : Int) by omega))
  have ib2 := hide (fun (q : Nat) (h : q < m) => (show (q : Int) < (n2 : Int) by omega))
  clear h0 hf0 h1 hf1 h2 hf2 ht e0 e1 e2 hi hz0 hz1 hz2
  go_enter Tryd.func7, Tryd.ntmps7
  go_wp2_with fail
  refine HW.out.mono ?_
  rintro e w1 ⟨rfl, hb1⟩
  have HB1 := hide hb1
  clear hb1 HW
  rcases hm with rfl | ⟨rfl, hlt0⟩ | ⟨rfl, hlt0, hlt1⟩
  all_goals
    go_wp2
    go_loopw [8, 9] (fun v i wr => ∃ q : Nat, q ≤ m ∧ i = .int .i64 q ∧ Hid (wr.ownsRow w1.heap.size 5 1 v q (((List.range q).map (Sums.mix xa xb xc)).map (Value.int .u8))) ∧ Hid (Below w1.heap.size w1 wr)) (fun _ i _ => m - (intOf i).toNat)
    case atStart => exact ⟨0, Nat.zero_le _, rfl, World.ownsRow_nil _ _ _ _, Below.refl _ _⟩
    case round =>
      obtain ⟨q, hq, rfl, hown, hbel⟩ := hrel
      by_cases hqm : q < m
      · obtain ⟨b0, o0, rfl, hl0, hc0⟩ := H0.out.cells (by omega)
        obtain ⟨b1, o1, rfl, hl1, hc1⟩ := H1.out.cells (by omega)
        obtain ⟨b2, o2, rfl, hl2, hc2⟩ := H2.out.cells (by omega)
        have hB := HB1.out.size
        have hold : ∀ w', KM w1.heap.size w1 w' → Below w.heap.size w w' := fun w' hk => HB1.out.trans (Below.mono hk hB)
        have g0 : ∀ w', KM w1.heap.size w1 w' → w'.cell? ⟨b0, o0 + q, none⟩ = some (.int .u8 (xa.getD q 0)) := fun w' hk => ((hold w' hk).cell (by exact hl0)).trans (hc0 q (by have := L0.out; omega))
        have g1 : ∀ w', KM w1.heap.size w1 w' → w'.cell? ⟨b1, o1 + q, none⟩ = some (.int .u8 (xb.getD q 0)) := fun w' hk => ((hold w' hk).cell (by exact hl1)).trans (hc1 q (by have := L1.out; omega))
        have g2 : ∀ w', KM w1.heap.size w1 w' → w'.cell? ⟨b2, o2 + q, none⟩ = some (.int .u8 (xc.getD q 0)) := fun w' hk => ((hold w' hk).cell (by exact hl2)).trans (hc2 q (by have := L2.out; omega))
        have y0 := HA.out.getD q
        have y1 := HB.out.getD q
        have y2 := HC.out.getD q
        have hx1 := u8_xor (xa.getD q 0) (xb.getD q 0) (by omega) (by omega) (by omega) (by omega)
        have hxb : (xa.getD q 0).toNat ^^^ (xb.getD q 0).toNat < 2 ^ 8 := Nat.xor_lt_two_pow (by omega) (by omega)
        have hx2 := u8_xor (((xa.getD q 0).toNat ^^^ (xb.getD q 0).toNat : Nat) : Int) (xc.getD q 0) (by omega) (by omega) (by omega) (by omega)
        have HMX : Hid (((((xa.getD q 0).toNat ^^^ (xb.getD q 0).toNat : Nat) : Int).toNat ^^^ (xc.getD q 0).toNat : Nat) = Sums.mix xa xb xc q) := by
          unfold Hid Sums.mix
          rw [Int.toNat_natCast]
        rw [HMX.out] at hx2
        obtain ⟨y, hy⟩ : ∃ y, y = Sums.mix xa xb xc q := ⟨_, rfl⟩
        rw [← hy] at hx2
        have HY := hide hy
        clear hy
        have hm64 : (q : Int) < (m : Int) := by omega
        have hK : KM w1.heap.size w1 wr := hbel.out
        have hsz := hbel.out.size
        clear hc0 hc1 hc2 HMX hold
        generalize xa.getD q 0 = z0 at *
        generalize xb.getD q 0 = z1 at *
        generalize xc.getD q 0 = z2 at *
        generalize ((z0.toNat ^^^ z1.toNat : Nat) : Int) = z01 at *
        have j0 := ib0.out q hqm
        have j1 := ib1.out q hqm
        have j2 := ib2.out q hqm
        clear hu0 hu1 hu2
        go_wp2
        refine wp_region_noPanic ?_
        go_region_held_law (fun w' => KM w1.heap.size w1 w') (first | exact KM.drew hK | assumption | exact Below.alloc (KM.drew hK) hsz _)
          (first | (refine step_append_row _ rfl (.tmp 24) (.tmp 39) 22 rfl w1.heap.size 5 i5 (.int .u8 0) 1 Tryd.underlying22 HI.out HZ0.out HZ1.out HZ2.out rfl _ q _ rfl (World.ownsRow.alloc (World.ownsRow.drew hown.out) _) .u8 _ 1 1 [y] rfl (row_lit .u8 wr.drew [y] 5 (by unfold maxLen; simp)) (by omega) (by omega) (by simp; omega) ?_; intro v' w' ho' hb'; have hk' : KM w1.heap.size w1 w' := Below.trans (Below.alloc (KM.drew hK) hsz _) hb'))
        all_goals
          refine NoPanic.normal ?_
          have HO := hide (mix_close (f := Sums.mix xa xb xc) HY.out ho' (by simp))
          have HK := hide hk'
          clear ho' hb' hk' hK hown hbel g0 g1 g2
          go_wp2
          go_roundw
          case rel => exact ⟨q + 1, by omega, by go_num, HO, HK⟩
          case measure => simp [intOf]; omega
      · obtain rfl : q = m := by omega
        obtain ⟨a3, c3, rfl, hr3⟩ := row_of_owns hown.out
        have HR3 := hide hr3
        have HBW := hide (HB1.out.trans (hbel.out.mono HB1.out.size))
        have htw := HT.out.below HBW.out
        have HY3 := mixed_bytes HA.out HB.out HC.out q
        have HE := hide (Sums.crc_mix L0.out L1.out L2.out)
        have HC0 := hide (fun w' (hk : KO wr w') => (⟨_, ((H0.out.below HBW.out).below hk).take hm0, HA.out.take q, htw.below hk, rfl⟩ : CR w' _ q _ _))
        have HC1 := hide (fun w' (hk : KO wr w') => (⟨_, ((H1.out.below HBW.out).below hk).take hm1, HB.out.take q, htw.below hk, rfl⟩ : CR w' _ q _ _))
        have HC2 := hide (fun w' (hk : KO wr w') => (⟨_, ((H2.out.below HBW.out).below hk).take hm2, HC.out.take q, htw.below hk, rfl⟩ : CR w' _ q _ _))
        have HC3 := hide (fun w' (hk : KO wr w') => (⟨_, HR3.out.below hk, HY3, htw.below hk, rfl⟩ : CR w' a3 q c3 _))
        rw [HE.out] at HC3
        have hx3 := xor3_int _ _ _ (Sums.crc_lt (HA.out.take q)) (Sums.crc_lt (HB.out.take q)) (Sums.crc_lt (HC.out.take q))
        have hK : KO wr wr := Below.refl _ _
        clear hr3 HY3 HE hown hbel
        generalize ((Sums.crc (xa.take q) ^^^ Sums.crc (xb.take q) ^^^ Sums.crc (xc.take q) : Nat) : Int) = s3 at *
        generalize ((Sums.crc (xa.take q) : Nat) : Int) = s0 at *
        generalize ((Sums.crc (xb.take q) : Nat) : Int) = s1 at *
        generalize ((Sums.crc (xc.take q) : Nat) : Int) = s2 at *
        go_wp2
        refine wp_region_noPanic ?_
        go_region_held (fun w' => KO wr w') (first | exact KO.drew hK | assumption)
          (first | (go_at_call 9; refine (crc_cr (by first | exact HC0.out _ (by assumption) | exact HC1.out _ (by assumption) | exact HC2.out _ (by assumption) | exact HC3.out _ (by assumption))).mono ?_; rintro e w' ⟨rfl, rfl⟩))
        all_goals
          refine NoPanic.normal ?_
          go_wp2
          go_ret
          exact ⟨rfl, HBW.out.trans (Below.mono (‹KO wr _› : KO wr _) HBW.out.size)⟩
end Go.Proofs.YthnhpbambkhphaaDoor
