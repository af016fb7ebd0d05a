/- The document's Step. -/
import Derived.Test.YtbbhefiibcbbfaaIp15
import Derived.Test.YtbbhefiibcbbfaaCy15
namespace Go.Proofs.Ytbbhefiibcbbfaa
open Go.RowKit
set_option linter.unusedVariables false
set_option maxHeartbeats 1000000
set_option maxRecDepth 100000
theorem rstep_any (Z : List (Int × Int)) (i s : Int) (B : Nat) (hB : B ≤ 4503599627370496) (hZ : Wz B Z) (b : Option Addr) (n d : Nat) (w : World) (hp : IP w b n d Z) :
    Calls Try.prog 15 #[.slice b n d, .int .i64 i, .int .i64 s] w fun e w' => e = .returned (.tuple #[.int .i64 (Spt.ST Z i s).1, .int .i64 (Spt.ST Z i s).2]) ∧ ∃ q, w' = w.drewN q := by
  have hl := hp.len
  have hm : n ≤ 9223372036854775807 := by have := Nat.le_trans hp.le hp.max; unfold maxLen at this; omega
  by_cases h1 : i < 0
  · rw [ST_no (.inl h1)]
    clear hp hZ
    go_enter Try.func15, Try.ntmps15
    go_wp2
    go_ret2
    exact ⟨rfl, 0, rfl⟩
  by_cases h2 : (n : Int) ≤ i
  · rw [ST_no (.inr (.inl (by rw [hl]; exact h2)))]
    clear hp hZ
    go_enter Try.func15, Try.ntmps15
    go_wp2
    go_ret2
    exact ⟨rfl, 0, rfl⟩
  by_cases h3 : ¬ s = 1 ∧ ¬ s = -1
  · rw [ST_no (.inr (.inr h3))]
    obtain ⟨h3, h4⟩ := h3
    have h3b : (s != 1) = true := bne_iff_ne.2 h3
    have h4b : (s != -1) = true := bne_iff_ne.2 h4
    clear hp hZ hl
    go_enter Try.func15, Try.ntmps15
    go_wp2
    go_ret2
    exact ⟨rfl, 0, rfl⟩
  · have hs : s = 1 ∨ s = -1 := by omega
    obtain ⟨k, rfl⟩ : ∃ k : Nat, i = (k : Int) := ⟨i.toNat, by omega⟩
    have hk : k < n := by omega
    have hin : (k : Int) < (n : Int) := by omega
    rw [ST_yes (by rw [hl]; exact hk) hs]
    obtain ⟨b2, rfl, hb2, hc2⟩ := hp.cells (by omega)
    have HC := hide (fun W (hk : KO w W) j (hj : j < n) => show _ ∧ _ from ⟨(Below.cell hk (by exact hb2)).trans (hc2 j hj).1, (Below.cell hk (by exact hb2)).trans (hc2 j hj).2⟩)
    have hz := hZ k
    have HWZ := hide hZ
    have HL := hide hl
    generalize hx : (Z.getD k (0, 0)).1 = x at *
    have HX := hide hx
    have hxs : IntKind.i64.wrap (x + s) = x + s := by rw [IntKind.wrap_i64]; omega
    have hb1 : -4503599627370498 ≤ x := by omega
    have hb2' : x ≤ 4503599627370498 := by omega
    have h1' : ¬ (k : Int) < 0 := by omega
    have hs1 : -1 ≤ s := by omega
    have hs2 : s ≤ 1 := by omega
    clear hc2 hZ hz hp hl hx
    rcases hs with rfl | rfl
    · go_enter Try.func15, Try.ntmps15
      go_wp2
      go_loopw [8] (fun s8 W => ∃ j : Nat, s8 = .int .i64 (j : Int) ∧ j ≤ n ∧ Hid (∀ i, i < j → ¬ Spt.Cd Z (x + 1) i) ∧ Hid (∃ q, W = w.drewN q)) (fun s8 _ => n - (intOf s8).toNat)
      case atStart => exact ⟨0, rfl, Nat.zero_le _, hide (fun i hi => absurd hi (Nat.not_lt_zero _)), hide ⟨0, rfl⟩⟩
      case round =>
        obtain ⟨j, rfl, hj, hall, hq⟩ := hrel
        by_cases hlt : j < n
        · have hinj : (j : Int) < (n : Int) := by omega
          have HK := hide (below_of_drewN hq.out)
          obtain ⟨p1, p2⟩ := HC.out _ HK.out j hlt
          obtain ⟨k1, k2⟩ := HC.out _ HK.out k hk
          rw [HX.out] at k1
          clear k2
          by_cases hy : (Z.getD j (0, 0)).2 = 0
          · have hyb : ((Z.getD j (0, 0)).2 != 0) = false := by rw [hy]; rfl
            have HN : Hid (∀ i, i < j + 1 → ¬ Spt.Cd Z (x + 1) i) := hide (fun i hi => by
              by_cases e : i = j
              · subst e; exact fun q => q.1 hy
              · exact hall.out i (by omega))
            generalize (Z.getD j (0, 0)).1 = u at *
            generalize (Z.getD j (0, 0)).2 = y at *
            clear hy hall HK
            go_wp2_with fail
            go_quiet (fail)
            go_wp2
            go_roundw
            case rel => exact ⟨j + 1, by go_num, by omega, HN, hide (by obtain ⟨q, e⟩ := hq.out; exact ⟨_, by rw [e]; exact World.drewN_drewN _ _ _⟩)⟩
            case measure => simp [intOf]; omega
          · have hyb : ((Z.getD j (0, 0)).2 != 0) = true := bne_iff_ne.2 hy
            by_cases hu : (Z.getD j (0, 0)).1 = x + 1
            · have hub : ((Z.getD j (0, 0)).1 == x + 1) = true := by rw [hu]; simp
              have HF : Hid (FA Z (x + 1) = ((j : Int), 0)) := hide (by unfold FA; rw [Spt.FI_some (by rw [HL.out]; exact hlt) ⟨hy, hu⟩ hall.out])
              generalize (Z.getD j (0, 0)).1 = u at *
              generalize (Z.getD j (0, 0)).2 = y at *
              clear hy hu hall
              go_wp2_with fail
              go_quiet (fail)
              go_wp2
              go_ret2
              exact ⟨by rw [HF.out]; rfl, by obtain ⟨q, e⟩ := hq.out; exact ⟨_, by rw [e]; exact World.drewN_drewN _ _ _⟩⟩
            · have hub : ((Z.getD j (0, 0)).1 == x + 1) = false := beq_eq_false_iff_ne.2 hu
              have HN : Hid (∀ i, i < j + 1 → ¬ Spt.Cd Z (x + 1) i) := hide (fun i hi => by
                by_cases e : i = j
                · subst e; exact fun q => hu q.2
                · exact hall.out i (by omega))
              generalize (Z.getD j (0, 0)).1 = u at *
              generalize (Z.getD j (0, 0)).2 = y at *
              clear hy hu hall HK
              go_wp2_with fail
              go_quiet (fail)
              go_wp2
              go_roundw
              case rel => exact ⟨j + 1, by go_num, by omega, HN, hide (by obtain ⟨q, e⟩ := hq.out; exact ⟨_, by rw [e]; exact World.drewN_drewN _ _ _⟩)⟩
              case measure => simp [intOf]; omega
        · obtain rfl : n = j := by omega
          have hne : ¬ (n : Int) < (n : Int) := by omega
          have HF : Hid (FA Z (x + 1) = (0, 150)) := hide (by unfold FA; rw [Spt.FI_none (by rw [HL.out]; exact hall.out)])
          clear hall
          go_wp2
          go_ret2
          exact ⟨by rw [HF.out]; rfl, hq.out⟩
    · go_enter Try.func15, Try.ntmps15
      go_wp2
      go_loopw [8] (fun s8 W => ∃ j : Nat, s8 = .int .i64 (j : Int) ∧ j ≤ n ∧ Hid (∀ i, i < j → ¬ Spt.Cd Z (x + -1) i) ∧ Hid (∃ q, W = w.drewN q)) (fun s8 _ => n - (intOf s8).toNat)
      case atStart => exact ⟨0, rfl, Nat.zero_le _, hide (fun i hi => absurd hi (Nat.not_lt_zero _)), hide ⟨0, rfl⟩⟩
      case round =>
        obtain ⟨j, rfl, hj, hall, hq⟩ := hrel
        by_cases hlt : j < n
        · have hinj : (j : Int) < (n : Int) := by omega
          have HK := hide (below_of_drewN hq.out)
          obtain ⟨p1, p2⟩ := HC.out _ HK.out j hlt
          obtain ⟨k1, k2⟩ := HC.out _ HK.out k hk
          rw [HX.out] at k1
          clear k2
          by_cases hy : (Z.getD j (0, 0)).2 = 0
          · have hyb : ((Z.getD j (0, 0)).2 != 0) = false := by rw [hy]; rfl
            have HN : Hid (∀ i, i < j + 1 → ¬ Spt.Cd Z (x + -1) i) := hide (fun i hi => by
              by_cases e : i = j
              · subst e; exact fun q => q.1 hy
              · exact hall.out i (by omega))
            generalize (Z.getD j (0, 0)).1 = u at *
            generalize (Z.getD j (0, 0)).2 = y at *
            clear hy hall HK
            go_wp2_with fail
            go_quiet (fail)
            go_wp2
            go_roundw
            case rel => exact ⟨j + 1, by go_num, by omega, HN, hide (by obtain ⟨q, e⟩ := hq.out; exact ⟨_, by rw [e]; exact World.drewN_drewN _ _ _⟩)⟩
            case measure => simp [intOf]; omega
          · have hyb : ((Z.getD j (0, 0)).2 != 0) = true := bne_iff_ne.2 hy
            by_cases hu : (Z.getD j (0, 0)).1 = x + -1
            · have hub : ((Z.getD j (0, 0)).1 == x + -1) = true := by rw [hu]; simp
              have HF : Hid (FA Z (x + -1) = ((j : Int), 0)) := hide (by unfold FA; rw [Spt.FI_some (by rw [HL.out]; exact hlt) ⟨hy, hu⟩ hall.out])
              generalize (Z.getD j (0, 0)).1 = u at *
              generalize (Z.getD j (0, 0)).2 = y at *
              clear hy hu hall
              go_wp2_with fail
              go_quiet (fail)
              go_wp2
              go_ret2
              exact ⟨by rw [HF.out]; rfl, by obtain ⟨q, e⟩ := hq.out; exact ⟨_, by rw [e]; exact World.drewN_drewN _ _ _⟩⟩
            · have hub : ((Z.getD j (0, 0)).1 == x + -1) = false := beq_eq_false_iff_ne.2 hu
              have HN : Hid (∀ i, i < j + 1 → ¬ Spt.Cd Z (x + -1) i) := hide (fun i hi => by
                by_cases e : i = j
                · subst e; exact fun q => hu q.2
                · exact hall.out i (by omega))
              generalize (Z.getD j (0, 0)).1 = u at *
              generalize (Z.getD j (0, 0)).2 = y at *
              clear hy hu hall HK
              go_wp2_with fail
              go_quiet (fail)
              go_wp2
              go_roundw
              case rel => exact ⟨j + 1, by go_num, by omega, HN, hide (by obtain ⟨q, e⟩ := hq.out; exact ⟨_, by rw [e]; exact World.drewN_drewN _ _ _⟩)⟩
              case measure => simp [intOf]; omega
        · obtain rfl : n = j := by omega
          have hne : ¬ (n : Int) < (n : Int) := by omega
          have HF : Hid (FA Z (x + -1) = (0, 150)) := hide (by unfold FA; rw [Spt.FI_none (by rw [HL.out]; exact hall.out)])
          clear hall
          go_wp2
          go_ret2
          exact ⟨by rw [HF.out]; rfl, hq.out⟩
end Go.Proofs.Ytbbhefiibcbbfaa
