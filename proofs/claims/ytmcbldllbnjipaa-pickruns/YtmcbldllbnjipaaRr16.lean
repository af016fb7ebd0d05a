/- The document's Runs, by contract. -/
import Derived.Test.YtmcbldllbnjipaaPm16
import Derived.Deep.RegionWith
import Derived.Test.YtmcbldllbnjipaaRg13
namespace Go.Proofs.Ytmcbldllbnjipaa
open Go.RowKit
set_option linter.unusedVariables false
set_option maxHeartbeats 1000000
set_option maxRecDepth 100000
theorem rmarked_any (ao : Option Addr) (n cap : Nat) (L : List Int) (k f t : Int) (w : World) (h : Row .i64 w ao n cap L) (r : Bool) (hr : r = true ↔ 0 ≤ k ∧ k < (n : Int) ∧ Pk.qc L f t k.toNat = true) :
    Calls Try.prog 19 #[.slice ao n cap, .int .i64 k, .int .i64 f, .int .i64 t] w fun e w' => e = .returned (.bool r) ∧ w = w' := by
  have hl := h.len
  by_cases h1 : 0 ≤ k
  · by_cases h2 : k < (n : Int)
    · obtain ⟨j, rfl⟩ : ∃ j : Nat, k = (j : Int) := ⟨k.toNat, by omega⟩
      obtain ⟨b, off, rfl, hb, hc⟩ := h.cells (by omega)
      have c0 := hc j (by omega)
      rw [Int.toNat_natCast, Pk.qc_iff] at hr
      have hcap := h.le
      have hmx := h.max
      unfold maxLen at hmx
      clear h hc hl
      generalize L.getD j 0 = x at *
      by_cases h3 : f ≤ x
      · by_cases h4 : x < t
        · obtain rfl : r = true := hr.2 ⟨by omega, h2, h3, h4⟩
          clear hr
          go_enter Try.func19, Try.ntmps19
          go_wp2
          go_ret
          exact ⟨rfl, rfl⟩
        · obtain rfl : r = false := by rw [← Bool.not_eq_true, hr]; omega
          clear hr
          go_enter Try.func19, Try.ntmps19
          go_wp2
          go_ret
          exact ⟨rfl, rfl⟩
      · obtain rfl : r = false := by rw [← Bool.not_eq_true, hr]; omega
        clear hr
        go_enter Try.func19, Try.ntmps19
        go_wp2
        go_ret
        exact ⟨rfl, rfl⟩
    · obtain rfl : r = false := by rw [← Bool.not_eq_true, hr]; omega
      clear hr h
      go_enter Try.func19, Try.ntmps19
      go_wp2
      go_ret
      exact ⟨rfl, rfl⟩
  · obtain rfl : r = false := by rw [← Bool.not_eq_true, hr]; omega
    clear hr h
    go_enter Try.func19, Try.ntmps19
    go_wp2
    go_ret
    exact ⟨rfl, rfl⟩
theorem rpruns_bad (ao : Option Addr) (n cap : Nat) (l : List Int) (f t : Int) (w : World) (h : Row .i64 w ao n cap l) (hn : n ≤ 60) (E : Int) (hA : PRA l f t [] E) (hE : ¬ E = 0) :
    Calls Try.prog 11 #[.slice ao n cap, .int .i64 f, .int .i64 t] w fun e w' => e = .returned (.tuple #[.slice none 0 0, .int .i64 E]) ∧ KO w w' := by
  have hl := h.len
  rcases hA with ⟨_, _, _, h0⟩ | ⟨hf, _, rfl⟩ | ⟨hf, hr, _, rfl⟩
  · exact absurd h0 hE
  · have HO := hide (rorder_any ao n cap l w h (by omega) [] 2 (.inr ⟨hf, rfl, rfl⟩))
    simp only [List.length_nil] at HO
    clear h hf hE
    go_enter Try.func11, Try.ntmps11
    go_wp2_with fail
    refine HO.out.mono ?_
    rintro e w1 ⟨a1, c1, rfl, hr1, hk1⟩
    have K1 := hide hk1
    clear hr1 hk1 HO
    go_wp2
    go_ret2
    exact ⟨rfl, K1.out⟩
  · have HO := hide (rorder_any ao n cap l w h (by omega) (Od.ON l) 0 (.inl ⟨hf, rfl, rfl⟩))
    rw [hl] at hr
    clear h hf hE hl
    generalize Od.ON l = L at *
    have hor : f < 0 ∨ (¬ f < 0 ∧ (n : Int) < t) ∨ (¬ f < 0 ∧ ¬ (n : Int) < t ∧ t < f) := by omega
    clear hr
    rcases hor with h1 | ⟨h1, h2⟩ | ⟨h1, h2, h3⟩
    all_goals (
      go_enter Try.func11, Try.ntmps11
      go_wp2_with fail
      refine HO.out.mono ?_
      rintro e w1 ⟨a1, c1, rfl, hr1, hk1⟩
      have K1 := hide hk1
      clear hr1 hk1 HO
      go_wp2
      go_ret2
      exact ⟨rfl, K1.out⟩)
theorem rpruns_ok (ao : Option Addr) (n cap : Nat) (l : List Int) (f t : Int) (w : World) (h : Row .i64 w ao n cap l) (hn : n ≤ 60) (R : List (Nat × Nat)) (hA : PRA l f t R 0) :
    Calls Try.prog 11 #[.slice ao n cap, .int .i64 f, .int .i64 t] w fun e w' => ∃ a c, e = .returned (.tuple #[.slice a R.length c, .int .i64 0]) ∧ Pairs w' a R.length c R ∧ KO w w' := by
  have hl := h.len
  obtain ⟨hf, ⟨hr1, hr2, hr3⟩, hR⟩ : Od.Fo l ∧ (0 ≤ f ∧ t ≤ (l.length : Int) ∧ f ≤ t) ∧ R = Pk.RU (Pk.qc (Od.ON l) f t) (Od.ON l).length := by
    rcases hA with ⟨h1, h2, h3, _⟩ | ⟨_, _, h0⟩ | ⟨_, _, _, h0⟩
    · exact ⟨h1, h2, h3⟩
    · cases h0
    · cases h0
  rw [hl] at hr2
  have HO := hide (rorder_any ao n cap l w h (by omega) (Od.ON l) 0 (.inl ⟨hf, rfl, rfl⟩))
  have h1 : ¬ f < 0 := by omega
  have h2 : ¬ (n : Int) < t := by omega
  have h3 : ¬ t < f := by omega
  have hle : (Od.ON l).length ≤ 60 := by
    have := Od.K_le l
    rw [Od.ON_len, Od.OD_len]
    omega
  obtain ⟨L, hL⟩ : ∃ L, Od.ON l = L := ⟨_, rfl⟩
  obtain ⟨m, hm⟩ : ∃ m, L.length = m := ⟨_, rfl⟩
  rw [hL] at HO hR hle
  rw [hm] at HO hR hle
  have HQ : Hid (∀ k, Pk.qc L f t k = true ↔ Pk.qc L f t k = true) := hide (fun k => Iff.rfl)
  have HMK := hide (fun (a : Option Addr) (c : Nat) (W : World) (k : Int) (hr : Row .i64 W a m c L) (r : Bool) (hh : r = true ↔ 0 ≤ k ∧ k < (m : Int) ∧ Pk.qc L f t k.toNat = true) => rmarked_any a m c L k f t W hr r hh)
  have HLEN := hide (fun a => Pk.RB_len (Pk.qc L f t) m a)
  have HIN := hide (fun a => Pk.RB_in (q := Pk.qc L f t) (m := m) (a := a))
  have HOUT := hide (fun a => Pk.RB_out (q := Pk.qc L f t) (m := m) (a := a))
  have HBG := hide (fun a => Pk.bg_iff (q := Pk.qc L f t) (a := a))
  have HEN := hide (fun a b => Pk.en_eq (q := Pk.qc L f t) (m := m) (a := a) (b := b))
  have HR : Hid (R = Pk.RB (Pk.qc L f t) m m) := hide hR
  obtain ⟨ie, hie, hz0, hz1, hz2⟩ := info_parts pairInfo
  have HI : Hid (Try.prog.info? 39 = some ie) := hie
  have HZ0 := hide hz0
  have HZ1 := hide hz1
  have HZ2 := hide hz2
  have hbd := pbuild_pair
  have hbo := build_pair1
  clear h hA hf hR hL hm hr1 hr2 hr3 hie hz0 hz1 hz2 hl
  generalize Pk.qc L f t = q at *
  go_enter Try.func11, Try.ntmps11
  go_wp2_with fail
  refine HO.out.mono ?_
  rintro e w1 ⟨a1, c1, rfl, hr1, hk1⟩
  have K1 := hide hk1
  have R1 := hide hr1
  clear hr1 hk1 HO
  go_wp2
  go_loopw [10, 11] (fun s10 s11 W => ∃ (v : Value) (a : Nat), v = s10 ∧ s11 = .int .i64 (a : Int) ∧ a ≤ m ∧ Hid (W.ownsRow w1.heap.size 39 2 v (Pk.RB q m a).length (flat2 (Pk.RB q m a))) ∧ Hid (KO w1 W)) (fun _ s11 _ => m - (intOf s11).toNat)
  case atStart => exact ⟨_, 0, rfl, rfl, Nat.zero_le _, hide (World.ownsRow_nil _ _ _ _), hide (KO.refl _)⟩
  case round =>
    obtain ⟨v, a, hv, rfl, ha, hown, hkw⟩ := hrel
    subst hv
    by_cases hlt : a < m
    · have hin : (a : Int) < (m : Int) := by omega
      have hrow := R1.out.below hkw.out
      by_cases hqa : q a = true
      · have HM1 := hide (HMK.out a1 c1 wr (a : Int) hrow true ⟨fun _ => ⟨by omega, hin, by rw [Int.toNat_natCast]; exact hqa⟩, fun _ => rfl⟩)
        by_cases hb1 : a = 0 ∨ q (a - 1) = false
        · have HM2 := hide (HMK.out a1 c1 wr ((a : Int) - 1) hrow false ⟨fun h => (by cases h), fun ⟨g1, g2, g3⟩ => (by
            rcases hb1 with g | g
            · omega
            · rw [show ((a : Int) - 1).toNat = a - 1 from by omega, g] at g3; cases g3)⟩)
          have hbg := (HBG.out a).2 ⟨hqa, hb1⟩
          have HS := hide (HIN.out a hbg)
          have HLN := hide (HLEN.out a)
          clear hb1 hbg hrow
          go_wp2_with fail
          refine HM1.out.mono ?_
          rintro e w' ⟨rfl, rfl⟩
          go_wp2_with fail
          refine HM2.out.mono ?_
          rintro e w' ⟨rfl, rfl⟩
          go_wp2
          go_loop [12] (fun s12 => ∃ b : Nat, s12 = .int .i64 (b : Int) ∧ a ≤ b ∧ b ≤ m ∧ Hid (∀ k, a ≤ k → k < b → q k = true)) (fun s12 => m - (intOf s12).toNat)
          case atStart => exact ⟨a, rfl, Nat.le_refl _, ha, hide (fun k h1 h2 => absurd h2 (by omega))⟩
          case round =>
            obtain ⟨b, rfl, hb1, hb2, hall⟩ := hrel
            by_cases hqb : b < m ∧ q b = true
            · obtain ⟨hbm, hqb⟩ := hqb
              have HM3 := hide (HMK.out a1 c1 wr (b : Int) (R1.out.below hkw.out) true ⟨fun _ => ⟨by omega, by omega, by rw [Int.toNat_natCast]; exact hqb⟩, fun _ => rfl⟩)
              have HAL : Hid (∀ k, a ≤ k → k < b + 1 → q k = true) := hide (fun k h1 h2 => by
                by_cases e : k = b
                · rw [e]; exact hqb
                · exact hall.out k h1 (by omega))
              clear hqb hall hqa
              go_wp2_with fail
              refine HM3.out.mono ?_
              rintro e w' ⟨rfl, rfl⟩
              go_wp2
              go_round
              case rel => exact ⟨b + 1, by go_num, by omega, by omega, HAL⟩
              case measure => simp [intOf]; omega
            · have HM3 := hide (HMK.out a1 c1 wr (b : Int) (R1.out.below hkw.out) false ⟨fun h => (by cases h), fun ⟨g1, g2, g3⟩ => absurd ⟨by omega, by rw [Int.toNat_natCast] at g3; exact g3⟩ hqb⟩)
              have hab : a < b := by
                rcases Nat.eq_or_lt_of_le hb1 with h | h
                · subst h; exact absurd ⟨hlt, hqa⟩ hqb
                · exact h
              have hen := HEN.out a b hlt hab hb2 hall.out (fun h => by
                cases h2 : q b with
                | true => exact absurd ⟨h, h2⟩ hqb
                | false => rfl)
              have hs := HS.out
              rw [hen] at hs
              have HS2 := hide hs
              have hln := HLN.out
              have hkb := hkw.out.size
              have HOW := hown
              obtain ⟨a6, c6, hva, _⟩ := owns_form hown.out
              subst hva
              clear hqb hall hqa hen hs HS HLN hown
              generalize Pk.RB q m a = Y at *
              obtain ⟨ny, hny⟩ : ∃ ny, Y.length = ny := ⟨_, rfl⟩
              rw [hny] at HOW hln ⊢
              have HNY := hide hny
              have HKB := hide hkb
              clear hny hkb
              go_wp2_with fail
              refine HM3.out.mono ?_
              rintro e w' ⟨rfl, rfl⟩
              go_wp2_with (at_builtin; refine wpList_append_own _ rfl _ _ 24 rfl w1.heap.size 39 ie _ 2 16 Try.underlying24 HI.out HZ0.out HZ1.out HZ2.out rfl (by decide) _ ny _ rfl (HOW.out.alloc _) ⟨wr.heap.size, 0, none⟩ 1 1 [.int .i64 (a : Int), .int .i64 (b : Int)] rfl rfl (two_new wr _ _ _) (by simp [Value.oneCell']) (by unfold maxLen; omega) (by omega) (by simp; have := HKB.out; omega) ?_; intro v5 w5 hown5 hg5 hn5)
              have HO5 : Hid (w5.ownsRow w1.heap.size 39 2 v5 (Pk.RB q m (a + 1)).length (flat2 (Pk.RB q m (a + 1)))) := hide (by
                rw [HS2.out, List.length_append, HNY.out, flat2_snoc]; exact hown5)
              have HK5 := hide (show KO w1 w5 from Below.trans (KO.alloc hkw.out _) ((Below.refl w1.heap.size _).grown hg5 (by simp; have := HKB.out; omega) (fun q hq => ((HOW.out.alloc (.cells #[.int .i64 (a : Int), .int .i64 (b : Int)] 39)).lt q hq).1)))
              clear hown5 hg5 hn5
              go_wp2
              go_roundw
              case rel => exact ⟨_, a + 1, rfl, by go_num, by omega, HO5, HK5⟩
              case measure => simp [intOf]; omega
        · have hb2 : q (a - 1) = true := by
            cases h : q (a - 1) with
            | true => rfl
            | false => exact absurd (.inr h) hb1
          have ha0 : 1 ≤ a := by
            rcases Nat.eq_zero_or_pos a with h | h
            · exact absurd (.inl h) hb1
            · exact h
          have HM2 := hide (HMK.out a1 c1 wr ((a : Int) - 1) hrow true ⟨fun _ => ⟨by omega, by omega, by rw [show ((a : Int) - 1).toNat = a - 1 from by omega]; exact hb2⟩, fun _ => rfl⟩)
          have hbg : Pk.bg q a = false := by
            rw [← Bool.not_eq_true, HBG.out]; exact fun h => hb1 h.2
          have HS := hide (HOUT.out a hbg)
          clear hb1 hb2 hbg hrow hqa
          go_wp2_with fail
          refine HM1.out.mono ?_
          rintro e w' ⟨rfl, rfl⟩
          go_wp2_with fail
          refine HM2.out.mono ?_
          rintro e w' ⟨rfl, rfl⟩
          go_wp2
          go_roundw
          case rel => exact ⟨v, a + 1, rfl, by go_num, by omega, by rw [HS.out]; exact hown, hkw⟩
          case measure => simp [intOf]; omega
      · have hqf : q a = false := by simpa using hqa
        have HM1 := hide (HMK.out a1 c1 wr (a : Int) hrow false ⟨fun h => (by cases h), fun ⟨g1, g2, g3⟩ => (by rw [Int.toNat_natCast, hqf] at g3; cases g3)⟩)
        have hbg : Pk.bg q a = false := by
          rw [← Bool.not_eq_true, HBG.out, hqf]; simp
        have HS := hide (HOUT.out a hbg)
        clear hrow hqa hqf hbg
        go_wp2_with (go_at_call 19; refine HM1.out.mono ?_; rintro e w' ⟨rfl, rfl⟩)
        go_roundw
        case rel => exact ⟨v, a + 1, rfl, by go_num, by omega, by rw [HS.out]; exact hown, hkw⟩
        case measure => simp [intOf]; omega
    · obtain rfl : m = a := by omega
      have hne : ¬ (m : Int) < (m : Int) := by omega
      have ho := hown.out
      rw [← HR.out] at ho
      obtain ⟨a2, c2, rfl, hp⟩ := pairs_of_owns ho
      have HP := hide hp
      clear hown ho hp
      go_wp2
      go_ret2
      exact ⟨a2, c2, rfl, HP.out, KO.on K1.out hkw.out⟩
end Go.Proofs.Ytmcbldllbnjipaa
