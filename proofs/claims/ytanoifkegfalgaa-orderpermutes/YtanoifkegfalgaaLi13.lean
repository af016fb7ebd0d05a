/- The levels of a line: the program's. -/
import Derived.Test.YtanoifkegfalgaaOp
import Derived.Test.YtanoifkegfalgaaOwn
import Derived.Test.YtanoifkegfalgaaLm13
import Derived.Test.YtanoifkegfalgaaJump2
namespace Go.Proofs.Ytanoifkegfalgaa
open Go.RowKit
set_option linter.unusedVariables false
set_option maxHeartbeats 2000000
set_option maxRecDepth 100000
theorem isSep_any (x : Int) (w : World) : Calls Try.prog 29 #[.int .i64 x] w fun e w' => e = .returned (.bool (Od.sep x)) ∧ w = w' := by
  by_cases h1 : x = 12
  · subst h1
    go_enter Try.func29, Try.ntmps29
    go_wp2
    go_ret
    exact ⟨rfl, rfl⟩
  · have h1b : (x == 12) = false := beq_eq_false_iff_ne.2 h1
    have hs : Od.sep x = (x == 11) := by unfold Od.sep; rw [h1b]; rfl
    rw [hs]
    go_enter Try.func29, Try.ntmps29
    go_wp2
    go_ret
    exact ⟨rfl, rfl⟩
theorem isBlank_any (x : Int) (w : World) : Calls Try.prog 30 #[.int .i64 x] w fun e w' => e = .returned (.bool (Od.loose x)) ∧ w = w' := by
  by_cases h1 : x = 13
  · subst h1
    go_enter Try.func30, Try.ntmps30
    go_wp2
    go_ret
    exact ⟨rfl, rfl⟩
  by_cases h2 : x = 20
  · subst h2
    go_enter Try.func30, Try.ntmps30
    go_wp2
    go_ret
    exact ⟨rfl, rfl⟩
  by_cases h3 : x = 21
  · subst h3
    go_enter Try.func30, Try.ntmps30
    go_wp2
    go_ret
    exact ⟨rfl, rfl⟩
  by_cases h4 : x = 22
  · subst h4
    go_enter Try.func30, Try.ntmps30
    go_wp2
    go_ret
    exact ⟨rfl, rfl⟩
  by_cases h5 : x = 23
  · subst h5
    go_enter Try.func30, Try.ntmps30
    go_wp2
    go_ret
    exact ⟨rfl, rfl⟩
  have hs : Od.loose x = false := by rw [← Bool.not_eq_true, Od.loose_iff]; omega
  have b1 : (x == 13) = false := beq_eq_false_iff_ne.2 h1
  have b2 : (x == 20) = false := beq_eq_false_iff_ne.2 h2
  have b3 : (x == 21) = false := beq_eq_false_iff_ne.2 h3
  have b4 : (x == 22) = false := beq_eq_false_iff_ne.2 h4
  have b5 : (x == 23) = false := beq_eq_false_iff_ne.2 h5
  rw [hs]
  go_enter Try.func30, Try.ntmps30
  go_wp2
  go_ret
  exact ⟨rfl, rfl⟩
theorem reset_any (B g n cc cap : Nat) (ac : Option Addr) (c l : List Int) (base : Int) (w0 w : World) (hc : Row .i64 w0 ac n cc c) (hB : w0.heap.size ≤ B) (h : OW B g n cap l w0 w) (hn : n ≤ 17592186044416) :
    Calls Try.prog 21 #[.slice ac n cc, .slice (some ⟨g, 0, none⟩) n cap, .int .i64 base] w fun e w' => e = .returned (.tuple #[]) ∧ OW B g n cap (Od.LX c l base n 0) w0 w' := by
  have HC := hide hc
  have HCl := hide hc.len
  have HB := hide hB
  have HTS : Hid (Od.txt c l n (n - n) = true) := hide (by rw [Nat.sub_self]; rfl)
  have HMS : Hid (OW B g n cap (Od.LX c l base n n) w0 w) := hide (by rw [Od.LX_start h.len]; exact h)
  clear hc hB h
  go_enter Try.func21, Try.ntmps21
  go_wp2
  refine wp_scope_two 0 1 (by omega) (fun (lb : Nat) (a' : Act) (W : World) => ∃ (u3 u4 u5 u7 u8 u9 u10 u11 u12 u13 u14 u15 u16 u17 u18 u19 u20 u21 u22 u23 u24 u25 u26 u27 u28 u29 u30 u31 u32 u33 u34 u35 u36 u37 u38 u39 u40 u41 u42 u43 u44 u45 u46 u47 u48 u49 u50 u51 u52 u53 u54 u55 : Value) (k : Nat), lb < 2 ∧ k ≤ n ∧ Hid (Od.txt c l n (n - k) = decide (lb = 1)) ∧ Hid (OW B g n cap (Od.LX c l base n k) w0 W) ∧ a' = { tmps := #[.slice ac n cc, .slice (some ⟨g, 0, none⟩) n cap, .int .i64 base, u3, u4, u5, .int .i64 (k : Int), u7, u8, u9, u10, u11, u12, u13, u14, u15, u16, u17, u18, u19, u20, u21, u22, u23, u24, u25, u26, u27, u28, u29, u30, u31, u32, u33, u34, u35, u36, u37, u38, u39, u40, u41, u42, u43, u44, u45, u46, u47, u48, u49, u50, u51, u52, u53, u54, u55], defers := [] }) (fun a' => (intOf (a'.tmps.getD 6 undef)).toNat) ?_ rfl rfl ?_ ?_ ?_
  · rintro lb a' W ⟨u3, u4, u5, u7, u8, u9, u10, u11, u12, u13, u14, u15, u16, u17, u18, u19, u20, u21, u22, u23, u24, u25, u26, u27, u28, u29, u30, u31, u32, u33, u34, u35, u36, u37, u38, u39, u40, u41, u42, u43, u44, u45, u46, u47, u48, u49, u50, u51, u52, u53, u54, u55, k, hlb, _⟩
    omega
  · have HT0 := HTS
    have HM0 := HMS
    go_wp2
    go_step3
    go_wp2
    go_loopw [6] (fun s6 W => ∃ k : Nat, s6 = .int .i64 (k : Int) ∧ k ≤ n ∧ Hid (Od.txt c l n (n - k) = true) ∧ Hid (OW B g n cap (Od.LX c l base n k) w0 W)) (fun s6 _ => (intOf s6).toNat)
    case atStart => exact ⟨n, rfl, Nat.le_refl _, HT0, HM0⟩
    case round =>
      obtain ⟨k, rfl, hk, ht, hm⟩ := hrel
      by_cases hk0 : k = 0
      · subst hk0
        have HM := hide hm.out
        have hne0 : ¬ (0 : Int) < ((0 : Nat) : Int) := by omega
        clear hm
        go_wp2
        simp only [hops]
        exact bodyPost_ret (results_none rfl _ _ _) rfl ⟨rfl, HM.out⟩
      · obtain ⟨i, rfl⟩ : ∃ i, k = i + 1 := ⟨k - 1, by omega⟩
        have e1 : ((i + 1 : Nat) : Int) - 1 = (i : Int) := by omega
        have hin0 : (0 : Int) < ((i + 1 : Nat) : Int) := by omega
        have hil : i < n := by omega
        have hin : (i : Int) < (n : Int) := by omega
        have cl := hm.out.cell (k := i) hil
        rw [Od.LX_at hil, if_neg (by omega)] at cl
        have fl := hm.out.own.frozenAt i
        obtain ⟨bc, oc, hac, hbc, hcc⟩ := HC.out.cells (by omega)
        subst hac
        have cc2 : wr.cell? ⟨bc, oc + i, none⟩ = some (.int .i64 (c.getD i 0)) := (hm.out.bel.cell (by exact Nat.lt_of_lt_of_le hbc HB.out)).trans (hcc i (by rw [HCl.out]; exact hil))
        clear hcc
        by_cases h1 : l.getD i 0 = -1
        · obtain ⟨g1, g2⟩ := Od.go_unseen (c := c) (base := base) hil h1
          have HTX : Hid (Od.txt c l n (n - i) = true) := hide (by rw [g2]; exact ht.out)
          have HM : Hid (OW B g n cap (Od.LX c l base n i) w0 wr) := hide (by rw [g1]; exact hm.out)
          rw [h1] at cl
          clear hm ht g1 g2
          go_wp2
          go_roundw
          case rel => exact ⟨i, rfl, by omega, HTX, HM⟩
          case measure => simp [intOf]
        · have h1b : (l.getD i 0 == -1) = false := beq_eq_false_iff_ne.2 h1
          have HS := hide (fun W => isSep_any (c.getD i 0) W)
          have HL2 := hide (fun W => isBlank_any (c.getD i 0) W)
          by_cases h2 : Od.sep (c.getD i 0) = true
          · obtain ⟨g1, g2⟩ := Od.go_sep (base := base) hil h1 h2
            have hset := hm.out.set i base
            rw [g1] at hset
            have HTX := hide g2
            have HM := hide hset
            rw [h2] at HS
            generalize l.getD i 0 = y at cl h1 h1b
            generalize c.getD i 0 = x at cc2 HS
            clear hm ht g1 g2 hset HL2
            go_wp2_with (go_at_call 29; refine (HS.out _).mono ?_; rintro e w' ⟨rfl, rfl⟩)
            go_roundw
            case rel => exact ⟨i, rfl, by omega, HTX, HM⟩
            case measure => simp [intOf]
          · have h2f := (Bool.not_eq_true _).mp h2
            rw [h2f] at HS
            by_cases h3 : Od.loose (c.getD i 0) = true
            · obtain ⟨g1, g2⟩ := Od.go_loose (base := base) hil h1 h3 ht.out
              have hset := hm.out.set i base
              rw [g1] at hset
              have HTX := hide g2
              have HM := hide hset
              rw [h3] at HL2
              generalize l.getD i 0 = y at cl h1 h1b
              generalize c.getD i 0 = x at cc2 HS HL2
              clear hm ht g1 g2 hset
              go_wp2_with (first | (go_at_call 29; refine (HS.out _).mono ?_; rintro e w' ⟨rfl, rfl⟩) | (go_at_call 30; refine (HL2.out _).mono ?_; rintro e w' ⟨rfl, rfl⟩))
              go_roundw
              case rel => exact ⟨i, rfl, by omega, HTX, HM⟩
              case measure => simp [intOf]
            · have h3f := (Bool.not_eq_true _).mp h3
              obtain ⟨g1, g2⟩ := Od.go_text (c := c) (base := base) hil h1 h2f (.inr h3f)
              have HTX : Hid (Od.txt c l n (n - i) = decide ((0 : Nat) = 1)) := hide (by rw [g2]; rfl)
              have HM : Hid (OW B g n cap (Od.LX c l base n i) w0 wr) := hide (by rw [g1]; exact hm.out)
              rw [h3f] at HL2
              generalize l.getD i 0 = y at cl h1 h1b
              generalize c.getD i 0 = x at cc2 HS HL2
              clear hm ht g1 g2
              go_wp2_with (first | (go_at_call 29; refine (HS.out _).mono ?_; rintro e w' ⟨rfl, rfl⟩) | (go_at_call 30; refine (HL2.out _).mono ?_; rintro e w' ⟨rfl, rfl⟩))
              go_step3
              exact ⟨_, _, _, _, _, _, _, _, _, _, _, _, _, _, _, _, _, _, _, _, _, _, _, _, _, _, _, _, _, _, _, _, _, _, _, _, _, _, _, _, _, _, _, _, _, _, _, _, _, _, _, _, i, by omega, by omega, HTX, HM, rfl⟩
  · rintro a' W ⟨u3, u4, u5, u7, u8, u9, u10, u11, u12, u13, u14, u15, u16, u17, u18, u19, u20, u21, u22, u23, u24, u25, u26, u27, u28, u29, u30, u31, u32, u33, u34, u35, u36, u37, u38, u39, u40, u41, u42, u43, u44, u45, u46, u47, u48, u49, u50, u51, u52, u53, u54, u55, k0, _, hk0n, ht0, HM0, rfl⟩
    have HT0 : Hid (Od.txt c l n (n - k0) = false) := hide (by have := ht0.out; simpa using this)
    clear ht0
    go_wp2
    go_loopw [6] (fun s6 W => ∃ k : Nat, s6 = .int .i64 (k : Int) ∧ k ≤ k0 ∧ Hid (Od.txt c l n (n - k) = false) ∧ Hid (OW B g n cap (Od.LX c l base n k) w0 W)) (fun s6 _ => (intOf s6).toNat)
    case atStart => exact ⟨k0, rfl, Nat.le_refl _, HT0, HM0⟩
    case round =>
      obtain ⟨k, rfl, hk, ht, hm⟩ := hrel
      by_cases hk0 : k = 0
      · subst hk0
        have HM := hide hm.out
        have hne0 : ¬ (0 : Int) < ((0 : Nat) : Int) := by omega
        clear hm
        go_wp2
        simp only [hops]
        go_end0
        exact ⟨rfl, HM.out⟩
      · obtain ⟨i, rfl⟩ : ∃ i, k = i + 1 := ⟨k - 1, by omega⟩
        have e1 : ((i + 1 : Nat) : Int) - 1 = (i : Int) := by omega
        have hin0 : (0 : Int) < ((i + 1 : Nat) : Int) := by omega
        have hil : i < n := by omega
        have hin : (i : Int) < (n : Int) := by omega
        have cl := hm.out.cell (k := i) hil
        rw [Od.LX_at hil, if_neg (by omega)] at cl
        have fl := hm.out.own.frozenAt i
        obtain ⟨bc, oc, hac, hbc, hcc⟩ := HC.out.cells (by omega)
        subst hac
        have cc2 : wr.cell? ⟨bc, oc + i, none⟩ = some (.int .i64 (c.getD i 0)) := (hm.out.bel.cell (by exact Nat.lt_of_lt_of_le hbc HB.out)).trans (hcc i (by rw [HCl.out]; exact hil))
        clear hcc
        by_cases h1 : l.getD i 0 = -1
        · obtain ⟨g1, g2⟩ := Od.go_unseen (c := c) (base := base) hil h1
          have HTX : Hid (Od.txt c l n (n - i) = false) := hide (by rw [g2]; exact ht.out)
          have HM : Hid (OW B g n cap (Od.LX c l base n i) w0 wr) := hide (by rw [g1]; exact hm.out)
          rw [h1] at cl
          clear hm ht g1 g2
          go_wp2
          go_roundw
          case rel => exact ⟨i, rfl, by omega, HTX, HM⟩
          case measure => simp [intOf]
        · have h1b : (l.getD i 0 != -1) = true := bne_iff_ne.2 h1
          have HS := hide (fun W => isSep_any (c.getD i 0) W)
          by_cases h2 : Od.sep (c.getD i 0) = true
          · obtain ⟨g1, g2⟩ := Od.go_sep (base := base) hil h1 h2
            have hset := hm.out.set i base
            rw [g1] at hset
            have HTX : Hid (Od.txt c l n (n - i) = decide ((1 : Nat) = 1)) := hide (by rw [g2]; rfl)
            have HM := hide hset
            rw [h2] at HS
            generalize l.getD i 0 = y at cl h1 h1b
            generalize c.getD i 0 = x at cc2 HS
            clear hm ht g1 g2 hset
            go_wp2_with (go_at_call 29; refine (HS.out _).mono ?_; rintro e w' ⟨rfl, rfl⟩)
            go_step3
            exact ⟨⟨_, _, _, _, _, _, _, _, _, _, _, _, _, _, _, _, _, _, _, _, _, _, _, _, _, _, _, _, _, _, _, _, _, _, _, _, _, _, _, _, _, _, _, _, _, _, _, _, _, _, _, _, i, by omega, by omega, HTX, HM, rfl⟩, by simp [intOf]; omega⟩
          · have h2f := (Bool.not_eq_true _).mp h2
            rw [h2f] at HS
            obtain ⟨g1, g2⟩ := Od.go_text (c := c) (base := base) hil h1 h2f (.inl (by have := ht.out; exact this))
            have HTX := hide g2
            have HM : Hid (OW B g n cap (Od.LX c l base n i) w0 wr) := hide (by rw [g1]; exact hm.out)
            generalize l.getD i 0 = y at cl h1 h1b
            generalize c.getD i 0 = x at cc2 HS
            clear hm ht g1 g2
            go_wp2_with (go_at_call 29; refine (HS.out _).mono ?_; rintro e w' ⟨rfl, rfl⟩)
            go_roundw
            case rel => exact ⟨i, rfl, by omega, HTX, HM⟩
            case measure => simp [intOf]
  · rintro a' W ⟨u3, u4, u5, u7, u8, u9, u10, u11, u12, u13, u14, u15, u16, u17, u18, u19, u20, u21, u22, u23, u24, u25, u26, u27, u28, u29, u30, u31, u32, u33, u34, u35, u36, u37, u38, u39, u40, u41, u42, u43, u44, u45, u46, u47, u48, u49, u50, u51, u52, u53, u54, u55, k0, _, hk0n, ht0, HM0, rfl⟩
    have HT0 : Hid (Od.txt c l n (n - k0) = true) := hide (by have := ht0.out; simpa using this)
    clear ht0
    go_wp2
    go_loopw [6] (fun s6 W => ∃ k : Nat, s6 = .int .i64 (k : Int) ∧ k ≤ k0 ∧ Hid (Od.txt c l n (n - k) = true) ∧ Hid (OW B g n cap (Od.LX c l base n k) w0 W)) (fun s6 _ => (intOf s6).toNat)
    case atStart => exact ⟨k0, rfl, Nat.le_refl _, HT0, HM0⟩
    case round =>
      obtain ⟨k, rfl, hk, ht, hm⟩ := hrel
      by_cases hk0 : k = 0
      · subst hk0
        have HM := hide hm.out
        have hne0 : ¬ (0 : Int) < ((0 : Nat) : Int) := by omega
        clear hm
        go_wp2
        simp only [hops]
        exact bodyPost_ret (results_none rfl _ _ _) rfl ⟨rfl, HM.out⟩
      · obtain ⟨i, rfl⟩ : ∃ i, k = i + 1 := ⟨k - 1, by omega⟩
        have e1 : ((i + 1 : Nat) : Int) - 1 = (i : Int) := by omega
        have hin0 : (0 : Int) < ((i + 1 : Nat) : Int) := by omega
        have hil : i < n := by omega
        have hin : (i : Int) < (n : Int) := by omega
        have cl := hm.out.cell (k := i) hil
        rw [Od.LX_at hil, if_neg (by omega)] at cl
        have fl := hm.out.own.frozenAt i
        obtain ⟨bc, oc, hac, hbc, hcc⟩ := HC.out.cells (by omega)
        subst hac
        have cc2 : wr.cell? ⟨bc, oc + i, none⟩ = some (.int .i64 (c.getD i 0)) := (hm.out.bel.cell (by exact Nat.lt_of_lt_of_le hbc HB.out)).trans (hcc i (by rw [HCl.out]; exact hil))
        clear hcc
        by_cases h1 : l.getD i 0 = -1
        · obtain ⟨g1, g2⟩ := Od.go_unseen (c := c) (base := base) hil h1
          have HTX : Hid (Od.txt c l n (n - i) = true) := hide (by rw [g2]; exact ht.out)
          have HM : Hid (OW B g n cap (Od.LX c l base n i) w0 wr) := hide (by rw [g1]; exact hm.out)
          rw [h1] at cl
          clear hm ht g1 g2
          go_wp2
          go_roundw
          case rel => exact ⟨i, rfl, by omega, HTX, HM⟩
          case measure => simp [intOf]
        · have h1b : (l.getD i 0 == -1) = false := beq_eq_false_iff_ne.2 h1
          have HS := hide (fun W => isSep_any (c.getD i 0) W)
          have HL2 := hide (fun W => isBlank_any (c.getD i 0) W)
          by_cases h2 : Od.sep (c.getD i 0) = true
          · obtain ⟨g1, g2⟩ := Od.go_sep (base := base) hil h1 h2
            have hset := hm.out.set i base
            rw [g1] at hset
            have HTX := hide g2
            have HM := hide hset
            rw [h2] at HS
            generalize l.getD i 0 = y at cl h1 h1b
            generalize c.getD i 0 = x at cc2 HS
            clear hm ht g1 g2 hset HL2
            go_wp2_with (go_at_call 29; refine (HS.out _).mono ?_; rintro e w' ⟨rfl, rfl⟩)
            go_roundw
            case rel => exact ⟨i, rfl, by omega, HTX, HM⟩
            case measure => simp [intOf]
          · have h2f := (Bool.not_eq_true _).mp h2
            rw [h2f] at HS
            by_cases h3 : Od.loose (c.getD i 0) = true
            · obtain ⟨g1, g2⟩ := Od.go_loose (base := base) hil h1 h3 ht.out
              have hset := hm.out.set i base
              rw [g1] at hset
              have HTX := hide g2
              have HM := hide hset
              rw [h3] at HL2
              generalize l.getD i 0 = y at cl h1 h1b
              generalize c.getD i 0 = x at cc2 HS HL2
              clear hm ht g1 g2 hset
              go_wp2_with (first | (go_at_call 29; refine (HS.out _).mono ?_; rintro e w' ⟨rfl, rfl⟩) | (go_at_call 30; refine (HL2.out _).mono ?_; rintro e w' ⟨rfl, rfl⟩))
              go_roundw
              case rel => exact ⟨i, rfl, by omega, HTX, HM⟩
              case measure => simp [intOf]
            · have h3f := (Bool.not_eq_true _).mp h3
              obtain ⟨g1, g2⟩ := Od.go_text (c := c) (base := base) hil h1 h2f (.inr h3f)
              have HTX : Hid (Od.txt c l n (n - i) = decide ((0 : Nat) = 1)) := hide (by rw [g2]; rfl)
              have HM : Hid (OW B g n cap (Od.LX c l base n i) w0 wr) := hide (by rw [g1]; exact hm.out)
              rw [h3f] at HL2
              generalize l.getD i 0 = y at cl h1 h1b
              generalize c.getD i 0 = x at cc2 HS HL2
              clear hm ht g1 g2
              go_wp2_with (first | (go_at_call 29; refine (HS.out _).mono ?_; rintro e w' ⟨rfl, rfl⟩) | (go_at_call 30; refine (HL2.out _).mono ?_; rintro e w' ⟨rfl, rfl⟩))
              go_step3
              exact ⟨⟨_, _, _, _, _, _, _, _, _, _, _, _, _, _, _, _, _, _, _, _, _, _, _, _, _, _, _, _, _, _, _, _, _, _, _, _, _, _, _, _, _, _, _, _, _, _, _, _, _, _, _, _, i, by omega, by omega, HTX, HM, rfl⟩, by simp [intOf]; omega⟩
end Go.Proofs.Ytanoifkegfalgaa
