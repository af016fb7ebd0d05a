import Derived.Test.YtmdmehopefgndaaGreatDoorZ28
import Derived.Test.YtmdmehopefgndaaGreatDoorZ21
import Derived.Test.YtmdmehopefgndaaGreatDoorZ27
import Derived.Test.YtmdmehopefgndaaGreatDoorZ07
/- The levels of a line: the program's. -/
namespace Go.Proofs.YtmdmehopefgndaaGreatDoor
open Go.RowKit
set_option linter.unusedVariables false
set_option maxHeartbeats 2000000
set_option maxRecDepth 100000
theorem isSep_any (x : Int) (w : World) : Calls Tryz.prog 43 #[.int .i64 x] w fun e w' => e = .returned (.bool (Od.sep x)) ∧ w = w' := by
  by_cases h1 : x = 12
  · subst h1
    go_enter Tryz.func43, Tryz.ntmps43
    go_wp2
    go_ret
    exact ⟨rfl, rfl⟩
  · have h1b : (x == 12) = false := beq_eq_false_iff_ne.2 h1
    have hs : Od.sep x = (x == 11) := by unfold Od.sep; rw [h1b]; rfl
    rw [hs]
    go_enter Tryz.func43, Tryz.ntmps43
    go_wp2
    go_ret
    exact ⟨rfl, rfl⟩
theorem isBlank_any (x : Int) (w : World) : Calls Tryz.prog 44 #[.int .i64 x] w fun e w' => e = .returned (.bool (Od.loose x)) ∧ w = w' := by
  by_cases h1 : x = 13
  · subst h1
    go_enter Tryz.func44, Tryz.ntmps44
    go_wp2
    go_ret
    exact ⟨rfl, rfl⟩
  by_cases h2 : x = 20
  · subst h2
    go_enter Tryz.func44, Tryz.ntmps44
    go_wp2
    go_ret
    exact ⟨rfl, rfl⟩
  by_cases h3 : x = 21
  · subst h3
    go_enter Tryz.func44, Tryz.ntmps44
    go_wp2
    go_ret
    exact ⟨rfl, rfl⟩
  by_cases h4 : x = 22
  · subst h4
    go_enter Tryz.func44, Tryz.ntmps44
    go_wp2
    go_ret
    exact ⟨rfl, rfl⟩
  by_cases h5 : x = 23
  · subst h5
    go_enter Tryz.func44, Tryz.ntmps44
    go_wp2
    go_ret
    exact ⟨rfl, rfl⟩
  have hs : Od.loose x = false := by rw [← Bool.not_eq_true, Od.loose_iff]; omega
  have b1 : (x == 13) = false := beq_eq_false_iff_ne.2 h1
  have b2 : (x == 20) = false := beq_eq_false_iff_ne.2 h2
  have b3 : (x == 21) = false := beq_eq_false_iff_ne.2 h3
  have b4 : (x == 22) = false := beq_eq_false_iff_ne.2 h4
  have b5 : (x == 23) = false := beq_eq_false_iff_ne.2 h5
  rw [hs]
  go_enter Tryz.func44, Tryz.ntmps44
  go_wp2
  go_ret
  exact ⟨rfl, rfl⟩
theorem reset_any (B g n cc cap : Nat) (ac : Option Addr) (c l : List Int) (base : Int) (w0 w : World) (hc : Row .i64 w0 ac n cc c) (hB : w0.heap.size ≤ B) (h : OW B g n cap l w0 w) (hn : n ≤ 17592186044416) :
    Calls Tryz.prog 33 #[.slice ac n cc, .slice (some ⟨g, 0, none⟩) n cap, .int .i64 base] w fun e w' => e = .returned (.tuple #[]) ∧ OW B g n cap (Od.LX c l base n 0) w0 w' := by
  have HC := hide hc
  have HCl := hide hc.len
  have HB := hide hB
  have HTS : Hid (Od.txt c l n (n - n) = true) := hide (by rw [Nat.sub_self]; rfl)
  have HMS : Hid (OW B g n cap (Od.LX c l base n n) w0 w) := hide (by rw [Od.LX_start h.len]; exact h)
  clear hc hB h
  go_enter Tryz.func33, Tryz.ntmps33
  go_wp2
  refine wp_scope_two 0 1 (by omega) (fun (lb : Nat) (a' : Act) (W : World) => ∃ (u3 u4 u5 u7 u8 u9 u10 u11 u12 u13 u14 u15 u16 u17 u18 u19 u20 u21 u22 u23 u24 u25 u26 u27 u28 u29 u30 u31 u32 u33 u34 u35 u36 u37 u38 u39 u40 u41 u42 u43 u44 u45 u46 u47 u48 u49 u50 u51 u52 u53 u54 u55 : Value) (k : Nat), lb < 2 ∧ k ≤ n ∧ Hid (Od.txt c l n (n - k) = decide (lb = 1)) ∧ Hid (OW B g n cap (Od.LX c l base n k) w0 W) ∧ a' = { tmps := #[.slice ac n cc, .slice (some ⟨g, 0, none⟩) n cap, .int .i64 base, u3, u4, u5, .int .i64 (k : Int), u7, u8, u9, u10, u11, u12, u13, u14, u15, u16, u17, u18, u19, u20, u21, u22, u23, u24, u25, u26, u27, u28, u29, u30, u31, u32, u33, u34, u35, u36, u37, u38, u39, u40, u41, u42, u43, u44, u45, u46, u47, u48, u49, u50, u51, u52, u53, u54, u55], defers := [] }) (fun a' => (intOf (a'.tmps.getD 6 undef)).toNat) ?_ rfl rfl ?_ ?_ ?_
  · rintro lb a' W ⟨u3, u4, u5, u7, u8, u9, u10, u11, u12, u13, u14, u15, u16, u17, u18, u19, u20, u21, u22, u23, u24, u25, u26, u27, u28, u29, u30, u31, u32, u33, u34, u35, u36, u37, u38, u39, u40, u41, u42, u43, u44, u45, u46, u47, u48, u49, u50, u51, u52, u53, u54, u55, k, hlb, _⟩
    omega
  · have HT0 := HTS
    have HM0 := HMS
    go_wp2
    go_step3
    go_wp2
    go_loopw [6] (fun s6 W => ∃ k : Nat, s6 = .int .i64 (k : Int) ∧ k ≤ n ∧ Hid (Od.txt c l n (n - k) = true) ∧ Hid (OW B g n cap (Od.LX c l base n k) w0 W)) (fun s6 _ => (intOf s6).toNat)
    case atStart => exact ⟨n, rfl, Nat.le_refl _, HT0, HM0⟩
    case round =>
      obtain ⟨k, rfl, hk, ht, hm⟩ := hrel
      by_cases hk0 : k = 0
      · subst hk0
        have HM := hide hm.out
        have hne0 : ¬ (0 : Int) < ((0 : Nat) : Int) := by omega
        clear hm
        go_wp2
        simp only [hops]
        exact bodyPost_ret (results_none rfl _ _ _) rfl ⟨rfl, HM.out⟩
      · obtain ⟨i, rfl⟩ : ∃ i, k = i + 1 := ⟨k - 1, by omega⟩
        have e1 : ((i + 1 : Nat) : Int) - 1 = (i : Int) := by omega
        have hin0 : (0 : Int) < ((i + 1 : Nat) : Int) := by omega
        have hil : i < n := by omega
        have hin : (i : Int) < (n : Int) := by omega
        have cl := hm.out.cell (k := i) hil
        rw [Od.LX_at hil, if_neg (by omega)] at cl
        have fl := hm.out.own.frozenAt i
        obtain ⟨bc, oc, hac, hbc, hcc⟩ := HC.out.cells (by omega)
        subst hac
        have cc2 : wr.cell? ⟨bc, oc + i, none⟩ = some (.int .i64 (c.getD i 0)) := (hm.out.bel.cell (by exact Nat.lt_of_lt_of_le hbc HB.out)).trans (hcc i (by rw [HCl.out]; exact hil))
        clear hcc
        by_cases h1 : l.getD i 0 = -1
        · obtain ⟨g1, g2⟩ := Od.go_unseen (c := c) (base := base) hil h1
          have HTX : Hid (Od.txt c l n (n - i) = true) := hide (by rw [g2]; exact ht.out)
          have HM : Hid (OW B g n cap (Od.LX c l base n i) w0 wr) := hide (by rw [g1]; exact hm.out)
          rw [h1] at cl
          clear hm ht g1 g2
          go_wp2
          go_roundw
          case rel => exact ⟨i, rfl, by omega, HTX, HM⟩
          case measure => simp [intOf]
        · have h1b : (l.getD i 0 == -1) = false := beq_eq_false_iff_ne.2 h1
          have HS := hide (fun W => isSep_any (c.getD i 0) W)
          have HL2 := hide (fun W => isBlank_any (c.getD i 0) W)
          by_cases h2 : Od.sep (c.getD i 0) = true
          · obtain ⟨g1, g2⟩ := Od.go_sep (base := base) hil h1 h2
            have hset := hm.out.set i base
            rw [g1] at hset
            have HTX := hide g2
            have HM := hide hset
            rw [h2] at HS
            generalize l.getD i 0 = y at cl h1 h1b
            generalize c.getD i 0 = x at cc2 HS
            clear hm ht g1 g2 hset HL2
            go_wp2_with (go_at_call 43; refine (HS.out _).mono ?_; rintro e w' ⟨rfl, rfl⟩)
            go_roundw
            case rel => exact ⟨i, rfl, by omega, HTX, HM⟩
            case measure => simp [intOf]
          · have h2f := (Bool.not_eq_true _).mp h2
            rw [h2f] at HS
            by_cases h3 : Od.loose (c.getD i 0) = true
            · obtain ⟨g1, g2⟩ := Od.go_loose (base := base) hil h1 h3 ht.out
              have hset := hm.out.set i base
              rw [g1] at hset
              have HTX := hide g2
              have HM := hide hset
              rw [h3] at HL2
              generalize l.getD i 0 = y at cl h1 h1b
              generalize c.getD i 0 = x at cc2 HS HL2
              clear hm ht g1 g2 hset
              go_wp2_with (first | (go_at_call 43; refine (HS.out _).mono ?_; rintro e w' ⟨rfl, rfl⟩) | (go_at_call 44; refine (HL2.out _).mono ?_; rintro e w' ⟨rfl, rfl⟩))
              go_roundw
              case rel => exact ⟨i, rfl, by omega, HTX, HM⟩
              case measure => simp [intOf]
            · have h3f := (Bool.not_eq_true _).mp h3
              obtain ⟨g1, g2⟩ := Od.go_text (c := c) (base := base) hil h1 h2f (.inr h3f)
              have HTX : Hid (Od.txt c l n (n - i) = decide ((0 : Nat) = 1)) := hide (by rw [g2]; rfl)
              have HM : Hid (OW B g n cap (Od.LX c l base n i) w0 wr) := hide (by rw [g1]; exact hm.out)
              rw [h3f] at HL2
              generalize l.getD i 0 = y at cl h1 h1b
              generalize c.getD i 0 = x at cc2 HS HL2
              clear hm ht g1 g2
              go_wp2_with (first | (go_at_call 43; refine (HS.out _).mono ?_; rintro e w' ⟨rfl, rfl⟩) | (go_at_call 44; refine (HL2.out _).mono ?_; rintro e w' ⟨rfl, rfl⟩))
              go_step3
              exact ⟨_, _, _, _, _, _, _, _, _, _, _, _, _, _, _, _, _, _, _, _, _, _, _, _, _, _, _, _, _, _, _, _, _, _, _, _, _, _, _, _, _, _, _, _, _, _, _, _, _, _, _, _, i, by omega, by omega, HTX, HM, rfl⟩
  · rintro a' W ⟨u3, u4, u5, u7, u8, u9, u10, u11, u12, u13, u14, u15, u16, u17, u18, u19, u20, u21, u22, u23, u24, u25, u26, u27, u28, u29, u30, u31, u32, u33, u34, u35, u36, u37, u38, u39, u40, u41, u42, u43, u44, u45, u46, u47, u48, u49, u50, u51, u52, u53, u54, u55, k0, _, hk0n, ht0, HM0, rfl⟩
    have HT0 : Hid (Od.txt c l n (n - k0) = false) := hide (by have := ht0.out; simpa using this)
    clear ht0
    go_wp2
    go_loopw [6] (fun s6 W => ∃ k : Nat, s6 = .int .i64 (k : Int) ∧ k ≤ k0 ∧ Hid (Od.txt c l n (n - k) = false) ∧ Hid (OW B g n cap (Od.LX c l base n k) w0 W)) (fun s6 _ => (intOf s6).toNat)
    case atStart => exact ⟨k0, rfl, Nat.le_refl _, HT0, HM0⟩
    case round =>
      obtain ⟨k, rfl, hk, ht, hm⟩ := hrel
      by_cases hk0 : k = 0
      · subst hk0
        have HM := hide hm.out
        have hne0 : ¬ (0 : Int) < ((0 : Nat) : Int) := by omega
        clear hm
        go_wp2
        simp only [hops]
        go_end0
        exact ⟨rfl, HM.out⟩
      · obtain ⟨i, rfl⟩ : ∃ i, k = i + 1 := ⟨k - 1, by omega⟩
        have e1 : ((i + 1 : Nat) : Int) - 1 = (i : Int) := by omega
        have hin0 : (0 : Int) < ((i + 1 : Nat) : Int) := by omega
        have hil : i < n := by omega
        have hin : (i : Int) < (n : Int) := by omega
        have cl := hm.out.cell (k := i) hil
        rw [Od.LX_at hil, if_neg (by omega)] at cl
        have fl := hm.out.own.frozenAt i
        obtain ⟨bc, oc, hac, hbc, hcc⟩ := HC.out.cells (by omega)
        subst hac
        have cc2 : wr.cell? ⟨bc, oc + i, none⟩ = some (.int .i64 (c.getD i 0)) := (hm.out.bel.cell (by exact Nat.lt_of_lt_of_le hbc HB.out)).trans (hcc i (by rw [HCl.out]; exact hil))
        clear hcc
        by_cases h1 : l.getD i 0 = -1
        · obtain ⟨g1, g2⟩ := Od.go_unseen (c := c) (base := base) hil h1
          have HTX : Hid (Od.txt c l n (n - i) = false) := hide (by rw [g2]; exact ht.out)
          have HM : Hid (OW B g n cap (Od.LX c l base n i) w0 wr) := hide (by rw [g1]; exact hm.out)
          rw [h1] at cl
          clear hm ht g1 g2
          go_wp2
          go_roundw
          case rel => exact ⟨i, rfl, by omega, HTX, HM⟩
          case measure => simp [intOf]
        · have h1b : (l.getD i 0 != -1) = true := bne_iff_ne.2 h1
          have HS := hide (fun W => isSep_any (c.getD i 0) W)
          by_cases h2 : Od.sep (c.getD i 0) = true
          · obtain ⟨g1, g2⟩ := Od.go_sep (base := base) hil h1 h2
            have hset := hm.out.set i base
            rw [g1] at hset
            have HTX : Hid (Od.txt c l n (n - i) = decide ((1 : Nat) = 1)) := hide (by rw [g2]; rfl)
            have HM := hide hset
            rw [h2] at HS
            generalize l.getD i 0 = y at cl h1 h1b
            generalize c.getD i 0 = x at cc2 HS
            clear hm ht g1 g2 hset
            go_wp2_with (go_at_call 43; refine (HS.out _).mono ?_; rintro e w' ⟨rfl, rfl⟩)
            go_step3
            exact ⟨⟨_, _, _, _, _, _, _, _, _, _, _, _, _, _, _, _, _, _, _, _, _, _, _, _, _, _, _, _, _, _, _, _, _, _, _, _, _, _, _, _, _, _, _, _, _, _, _, _, _, _, _, _, i, by omega, by omega, HTX, HM, rfl⟩, by simp [intOf]; omega⟩
          · have h2f := (Bool.not_eq_true _).mp h2
            rw [h2f] at HS
            obtain ⟨g1, g2⟩ := Od.go_text (c := c) (base := base) hil h1 h2f (.inl (by have := ht.out; exact this))
            have HTX := hide g2
            have HM : Hid (OW B g n cap (Od.LX c l base n i) w0 wr) := hide (by rw [g1]; exact hm.out)
            generalize l.getD i 0 = y at cl h1 h1b
            generalize c.getD i 0 = x at cc2 HS
            clear hm ht g1 g2
            go_wp2_with (go_at_call 43; refine (HS.out _).mono ?_; rintro e w' ⟨rfl, rfl⟩)
            go_roundw
            case rel => exact ⟨i, rfl, by omega, HTX, HM⟩
            case measure => simp [intOf]
  · rintro a' W ⟨u3, u4, u5, u7, u8, u9, u10, u11, u12, u13, u14, u15, u16, u17, u18, u19, u20, u21, u22, u23, u24, u25, u26, u27, u28, u29, u30, u31, u32, u33, u34, u35, u36, u37, u38, u39, u40, u41, u42, u43, u44, u45, u46, u47, u48, u49, u50, u51, u52, u53, u54, u55, k0, _, hk0n, ht0, HM0, rfl⟩
    have HT0 : Hid (Od.txt c l n (n - k0) = true) := hide (by have := ht0.out; simpa using this)
    clear ht0
    go_wp2
    go_loopw [6] (fun s6 W => ∃ k : Nat, s6 = .int .i64 (k : Int) ∧ k ≤ k0 ∧ Hid (Od.txt c l n (n - k) = true) ∧ Hid (OW B g n cap (Od.LX c l base n k) w0 W)) (fun s6 _ => (intOf s6).toNat)
    case atStart => exact ⟨k0, rfl, Nat.le_refl _, HT0, HM0⟩
    case round =>
      obtain ⟨k, rfl, hk, ht, hm⟩ := hrel
      by_cases hk0 : k = 0
      · subst hk0
        have HM := hide hm.out
        have hne0 : ¬ (0 : Int) < ((0 : Nat) : Int) := by omega
        clear hm
        go_wp2
        simp only [hops]
        exact bodyPost_ret (results_none rfl _ _ _) rfl ⟨rfl, HM.out⟩
      · obtain ⟨i, rfl⟩ : ∃ i, k = i + 1 := ⟨k - 1, by omega⟩
        have e1 : ((i + 1 : Nat) : Int) - 1 = (i : Int) := by omega
        have hin0 : (0 : Int) < ((i + 1 : Nat) : Int) := by omega
        have hil : i < n := by omega
        have hin : (i : Int) < (n : Int) := by omega
        have cl := hm.out.cell (k := i) hil
        rw [Od.LX_at hil, if_neg (by omega)] at cl
        have fl := hm.out.own.frozenAt i
        obtain ⟨bc, oc, hac, hbc, hcc⟩ := HC.out.cells (by omega)
        subst hac
        have cc2 : wr.cell? ⟨bc, oc + i, none⟩ = some (.int .i64 (c.getD i 0)) := (hm.out.bel.cell (by exact Nat.lt_of_lt_of_le hbc HB.out)).trans (hcc i (by rw [HCl.out]; exact hil))
        clear hcc
        by_cases h1 : l.getD i 0 = -1
        · obtain ⟨g1, g2⟩ := Od.go_unseen (c := c) (base := base) hil h1
          have HTX : Hid (Od.txt c l n (n - i) = true) := hide (by rw [g2]; exact ht.out)
          have HM : Hid (OW B g n cap (Od.LX c l base n i) w0 wr) := hide (by rw [g1]; exact hm.out)
          rw [h1] at cl
          clear hm ht g1 g2
          go_wp2
          go_roundw
          case rel => exact ⟨i, rfl, by omega, HTX, HM⟩
          case measure => simp [intOf]
        · have h1b : (l.getD i 0 == -1) = false := beq_eq_false_iff_ne.2 h1
          have HS := hide (fun W => isSep_any (c.getD i 0) W)
          have HL2 := hide (fun W => isBlank_any (c.getD i 0) W)
          by_cases h2 : Od.sep (c.getD i 0) = true
          · obtain ⟨g1, g2⟩ := Od.go_sep (base := base) hil h1 h2
            have hset := hm.out.set i base
            rw [g1] at hset
            have HTX := hide g2
            have HM := hide hset
            rw [h2] at HS
            generalize l.getD i 0 = y at cl h1 h1b
            generalize c.getD i 0 = x at cc2 HS
            clear hm ht g1 g2 hset HL2
            go_wp2_with (go_at_call 43; refine (HS.out _).mono ?_; rintro e w' ⟨rfl, rfl⟩)
            go_roundw
            case rel => exact ⟨i, rfl, by omega, HTX, HM⟩
            case measure => simp [intOf]
          · have h2f := (Bool.not_eq_true _).mp h2
            rw [h2f] at HS
            by_cases h3 : Od.loose (c.getD i 0) = true
            · obtain ⟨g1, g2⟩ := Od.go_loose (base := base) hil h1 h3 ht.out
              have hset := hm.out.set i base
              rw [g1] at hset
              have HTX := hide g2
              have HM := hide hset
              rw [h3] at HL2
              generalize l.getD i 0 = y at cl h1 h1b
              generalize c.getD i 0 = x at cc2 HS HL2
              clear hm ht g1 g2 hset
              go_wp2_with (first | (go_at_call 43; refine (HS.out _).mono ?_; rintro e w' ⟨rfl, rfl⟩) | (go_at_call 44; refine (HL2.out _).mono ?_; rintro e w' ⟨rfl, rfl⟩))
              go_roundw
              case rel => exact ⟨i, rfl, by omega, HTX, HM⟩
              case measure => simp [intOf]
            · have h3f := (Bool.not_eq_true _).mp h3
              obtain ⟨g1, g2⟩ := Od.go_text (c := c) (base := base) hil h1 h2f (.inr h3f)
              have HTX : Hid (Od.txt c l n (n - i) = decide ((0 : Nat) = 1)) := hide (by rw [g2]; rfl)
              have HM : Hid (OW B g n cap (Od.LX c l base n i) w0 wr) := hide (by rw [g1]; exact hm.out)
              rw [h3f] at HL2
              generalize l.getD i 0 = y at cl h1 h1b
              generalize c.getD i 0 = x at cc2 HS HL2
              clear hm ht g1 g2
              go_wp2_with (first | (go_at_call 43; refine (HS.out _).mono ?_; rintro e w' ⟨rfl, rfl⟩) | (go_at_call 44; refine (HL2.out _).mono ?_; rintro e w' ⟨rfl, rfl⟩))
              go_step3
              exact ⟨⟨_, _, _, _, _, _, _, _, _, _, _, _, _, _, _, _, _, _, _, _, _, _, _, _, _, _, _, _, _, _, _, _, _, _, _, _, _, _, _, _, _, _, _, _, _, _, _, _, _, _, _, _, i, by omega, by omega, HTX, HM, rfl⟩, by simp [intOf]; omega⟩
end Go.Proofs.YtmdmehopefgndaaGreatDoor

/- slices.Clone of a list of numbers. -/
namespace Go.Proofs.YtmdmehopefgndaaGreatDoor
open Go.RowKit
set_option linter.unusedVariables false
set_option maxHeartbeats 2000000
set_option maxRecDepth 100000
theorem nil_yes (w : World) : (binOp BinOp.eql 27 (.slice none 0 0) (.slice none 0 0)).run Tryz.prog w = .ok (.bool true) w := by kernel_rfl
theorem nil_no (ad : Addr) (n cap : Nat) (w : World) : (binOp BinOp.eql 27 (.slice (some ad) n cap) (.slice none 0 0)).run Tryz.prog w = .ok (.bool false) w := by kernel_rfl
theorem clone_any (ao : Option Addr) (n cap : Nat) (l : List Int) (w : World) (h : Row .i64 w ao n cap l) (hn : n * 8 ≤ 281474976710656) :
    Calls Tryz.prog 32 #[.slice ao n cap] w fun e w' => ∃ v, e = .returned v ∧ w'.ownsRow w.heap.size 3 1 v n (l.map (Value.int .i64)) ∧ KO w w' := by
  obtain ⟨ii, hii, hy0, hy1, hy2⟩ := info_parts infoInt
  have HII : Hid (Tryz.prog.info? 3 = some ii) := hii
  have HY0 := hide hy0
  have HY1 := hide hy1
  have HY2 := hide hy2
  cases ao with
  | none =>
    have hcap := h.nil rfl
    have hn0 : n = 0 := by have := h.le; omega
    subst hcap hn0
    have hl : l = [] := List.length_eq_zero_iff.1 h.len
    subst hl
    have hnil := nil_yes w
    clear h
    go_enter Tryz.func32, Tryz.ntmps32
    go_wp2
    go_ret
    exact ⟨_, rfl, World.ownsRow_nil _ _ _ _, KO.refl w⟩
  | some ad =>
    have HR := hide (h.below (KO.alloc (KO.refl w) (.cells #[] 3)))
    have HE := hide (owns_empty w 3 w.heap.size rfl)
    have HK := hide (KO.alloc (KO.refl w) (.cells #[] 3))
    have hnil := nil_no ad n cap w
    clear h
    go_enter Tryz.func32, Tryz.ntmps32
    go_wp2_with (at_builtin; refine wpList_append_fresh _ rfl (.tmp 5) (.tmp 6) 27 rfl w.heap.size 3 ii (.int .i64 0) 8 Tryz.underlying27 HII.out HY0.out HY1.out HY2.out rfl w.heap.size rfl HE.out .i64 _ n cap l rfl HR.out ?c0 ?c1 (by simp) ?_)
    case c0 => omega
    case c1 => omega
    intro v2 w2 ho2 hb2
    have HO := hide ho2
    have HB := hide (Below.trans HK.out hb2)
    clear ho2 hb2
    go_wp2
    go_ret
    exact ⟨_, rfl, HO.out, HB.out⟩
end Go.Proofs.YtmdmehopefgndaaGreatDoor

/- Line: the program's. -/
namespace Go.Proofs.YtmdmehopefgndaaGreatDoor
open Go.RowKit
set_option linter.unusedVariables false
set_option maxHeartbeats 2000000
set_option maxRecDepth 100000
theorem reset_none (a b : Option Addr) (cc cap : Nat) (base : Int) (w : World) :
    Calls Tryz.prog 33 #[.slice a 0 cc, .slice b 0 cap, .int .i64 base] w fun e w' => e = .returned (.tuple #[]) ∧ w = w' := by
  go_enter Tryz.func33, Tryz.ntmps33
  go_wp2
  go_step3
  go_wp2
  go_step3
  go_wp2
  refine wp_loop_rounds 1 ?_
  rw [rounds_succ]
  go_wp2
  rw [Exit.noGoto_ret]
  exact bodyPost_ret (results_none rfl _ _ _) rfl ⟨rfl, rfl⟩
/-- reset of a line that the call owns. -/
theorem reset_own (B n cc : Nat) (ac : Option Addr) (v : Value) (c l : List Int) (base : Int) (w0 w : World) (hc : Row .i64 w0 ac n cc c) (hB : w0.heap.size ≤ B) (ho : w.ownsRow B 3 1 v n (l.map (Value.int .i64))) (hb : Below B w0 w) (hn : n ≤ 17592186044416) :
    Calls Tryz.prog 33 #[.slice ac n cc, v, .int .i64 base] w fun e w' => e = .returned (.tuple #[]) ∧ w'.ownsRow B 3 1 v n ((Od.LX c l base n 0).map (Value.int .i64)) ∧ Below B w0 w' := by
  by_cases h0 : n = 0
  · subst h0
    obtain ⟨a, cap, rfl, _⟩ := owns_form ho
    have hl : l = [] := by have := ho.1; exact List.length_eq_zero_iff.1 (by simpa using this)
    subst hl
    refine (reset_none ac a cc cap base w).mono ?_
    rintro e w' ⟨rfl, rfl⟩
    exact ⟨rfl, ho, hb⟩
  · obtain ⟨g, cap, rfl, hg, hcap⟩ := owns_pos ho (by omega)
    refine (reset_any B g n cc cap ac c l base w0 w hc hB ⟨ho, hb⟩ hn).mono ?_
    rintro e w' ⟨rfl, hw⟩
    exact ⟨rfl, hw.own, hw.bel⟩
/-- What Line asks of classes and levels. -/
def LineGood (nc nl : Nat) (l : List Int) (base : Int) : Prop := nc = nl ∧ 0 ≤ base ∧ base ≤ 1 ∧ Od.Fo l
theorem line_arg (ac al : Option Addr) (nc cc nl cl : Nat) (l : List Int) (base fr tq : Int) (w : World) (hl : Row .i64 w al nl cl l) (hb : ¬ LineGood nc nl l base) :
    Calls Tryz.prog 17 #[.slice ac nc cc, .slice al nl cl, .int .i64 base, .int .i64 fr, .int .i64 tq] w fun e w' => e = .returned (.tuple #[.slice none 0 0, .int .i64 2]) ∧ w = w' := by
  have HA := hide (areLevels_any al nl cl l w hl)
  by_cases h1 : nc = nl
  · subst h1
    have h1b : ((nc : Int) != (nc : Int)) = false := by simp
    by_cases h2 : base < 0
    · clear hb hl HA
      go_enter Tryz.func17, Tryz.ntmps17
      go_wp2
      go_ret2
      exact ⟨rfl, rfl⟩
    by_cases h3 : 1 < base
    · clear hb hl HA
      go_enter Tryz.func17, Tryz.ntmps17
      go_wp2
      go_ret2
      exact ⟨rfl, rfl⟩
    have hf : ¬ Od.Fo l := fun q => hb ⟨rfl, by omega, by omega, q⟩
    rw [decide_eq_false hf] at HA
    clear hb hl hf
    go_enter Tryz.func17, Tryz.ntmps17
    go_wp2_with (go_at_call 21; refine HA.out.mono ?_; rintro e w' ⟨rfl, rfl⟩)
    go_ret2
    exact ⟨rfl, rfl⟩
  · have h1b : ((nc : Int) != (nl : Int)) = true := bne_iff_ne.2 (by omega)
    clear hb hl HA
    go_enter Tryz.func17, Tryz.ntmps17
    go_wp2
    go_ret2
    exact ⟨rfl, rfl⟩
theorem line_range (ac al : Option Addr) (n cc cl : Nat) (l : List Int) (base fr tq : Int) (w : World) (hl : Row .i64 w al n cl l) (hg : LineGood n n l base) (hr : fr < 0 ∨ (n : Int) < tq ∨ tq < fr) :
    Calls Tryz.prog 17 #[.slice ac n cc, .slice al n cl, .int .i64 base, .int .i64 fr, .int .i64 tq] w fun e w' => e = .returned (.tuple #[.slice none 0 0, .int .i64 4]) ∧ w = w' := by
  have HA := hide (areLevels_any al n cl l w hl)
  rw [decide_eq_true hg.2.2.2] at HA
  have h2 : ¬ base < 0 := by have := hg.2.1; omega
  have h3 : ¬ 1 < base := by have := hg.2.2.1; omega
  clear hg hl
  by_cases r1 : fr < 0
  · clear hr
    go_enter Tryz.func17, Tryz.ntmps17
    go_wp2_with (go_at_call 21; refine HA.out.mono ?_; rintro e w' ⟨rfl, rfl⟩)
    go_ret2
    exact ⟨rfl, rfl⟩
  by_cases r2 : (n : Int) < tq
  · clear hr
    go_enter Tryz.func17, Tryz.ntmps17
    go_wp2_with (go_at_call 21; refine HA.out.mono ?_; rintro e w' ⟨rfl, rfl⟩)
    go_ret2
    exact ⟨rfl, rfl⟩
  have r3 : tq < fr := by omega
  clear hr
  go_enter Tryz.func17, Tryz.ntmps17
  go_wp2_with (go_at_call 21; refine HA.out.mono ?_; rintro e w' ⟨rfl, rfl⟩)
  go_ret2
  exact ⟨rfl, rfl⟩
/-- A piece of a list. -/
def mid (l : List Int) (fr tq : Nat) : List Int := (l.drop fr).take (tq - fr)
theorem line_ok (ac al : Option Addr) (n cc cl fr tq : Nat) (c l : List Int) (base : Int) (w : World) (hc : Row .i64 w ac n cc c) (hl : Row .i64 w al n cl l) (hg : LineGood n n l base) (hft : fr ≤ tq) (hto : tq ≤ n) (hn : n * 8 ≤ 140737488351232) :
    Calls Tryz.prog 17 #[.slice ac n cc, .slice al n cl, .int .i64 base, .int .i64 (fr : Int), .int .i64 (tq : Int)] w fun e w' =>
      ∃ v, e = .returned (.tuple #[v, .int .i64 0]) ∧ w'.ownsRow w.heap.size 3 1 v (tq - fr) ((Od.LX (mid c fr tq) (mid l fr tq) base (tq - fr) 0).map (Value.int .i64)) ∧ KO w w' := by
  obtain ⟨ii, hii, hy0, hy1, hy2⟩ := info_parts infoInt
  have HA := hide (areLevels_any al n cl l w hl)
  rw [decide_eq_true hg.2.2.2] at HA
  have h2 : ¬ base < 0 := by have := hg.2.1; omega
  have h3 : ¬ 1 < base := by have := hg.2.2.1; omega
  have hlc := hl.le
  have hcc := hc.le
  have r1 : ¬ (fr : Int) < 0 := by omega
  have r2 : ¬ (n : Int) < (tq : Int) := by omega
  have r3 : ¬ (tq : Int) < (fr : Int) := by omega
  have m1 := fun W => run_mid (P := Tryz.prog) Tryz.underlying27 hii cellsInt al n cl fr tq hft (by omega) W
  have m2 := fun W => run_mid (P := Tryz.prog) Tryz.underlying27 hii cellsInt ac n cc fr tq hft (by omega) W
  have HC := hide (clone_any _ _ _ _ w ((hl.drop (j := fr) (by omega)).take (e := tq - fr) (by omega)) (by omega))
  have HR := hide (fun v (W : World) (ho : W.ownsRow w.heap.size 3 1 v (tq - fr) ((mid l fr tq).map (Value.int .i64))) (hb : KO w W) => reset_own w.heap.size (tq - fr) (cc - fr) (tl ac cc fr) v (mid c fr tq) (mid l fr tq) base w W ((hc.drop (j := fr) (by omega)).take (e := tq - fr) (by omega)) (Nat.le_refl _) ho hb (by omega))
  clear hg hl hc hii hy0 hy1 hy2
  go_enter Tryz.func17, Tryz.ntmps17
  go_wp2_with (first
    | (go_at_call 21; refine HA.out.mono ?_; rintro e w' ⟨rfl, rfl⟩)
    | (go_at_call 32; refine HC.out.mono ?_; rintro e w1 ⟨v, rfl, ho1, hk1⟩; have HR1 := hide (HR.out v w1 ho1 hk1); clear ho1 hk1)
    | (go_at_call 33; refine HR1.out.mono ?_; rintro e w2 ⟨rfl, ho2, hk2⟩; have HO2 := hide ho2; have HK2 := hide hk2; clear ho2 hk2))
  go_ret2
  exact ⟨_, rfl, HO2.out, HK2.out⟩
end Go.Proofs.YtmdmehopefgndaaGreatDoor

/- A line within a paragraph: the program's is the document's where no separator is unseen: plain mathematics. -/
namespace Go.Proofs.YtmdmehopefgndaaGreatDoor
set_option linter.unusedVariables false
theorem mid_get (l : List Int) {fr tq i : Nat} (hi : i < tq - fr) : (mid l fr tq).getD i 0 = l.getD (fr + i) 0 := by
  unfold mid
  rw [getD_take hi]
  simp [List.getD, List.getElem?_drop]
theorem mid_len {l : List Int} {fr tq : Nat} (h : tq ≤ l.length) : (mid l fr tq).length = tq - fr := by
  unfold mid
  rw [List.length_take, List.length_drop]
  omega
namespace Od
theorem rs_mid (c l : List Int) {fr tq : Nat} : ∀ d k, k + d ≤ tq - fr → rs (mid c fr tq) (mid l fr tq) k d = rs c l (fr + k) d
  | 0, k, _ => by rw [rs, rs]
  | d + 1, k, h => by
    have ih := rs_mid c l (fr := fr) (tq := tq) d (k + 1) (by omega)
    rw [rs, rs, mid_get c (by omega), mid_get l (by omega), ih]
    rfl
theorem seps_mid {c l : List Int} {fr tq : Nat} (h : Seps c l) (hto : tq ≤ l.length) : Seps (mid c fr tq) (mid l fr tq) := by
  intro i hi
  rw [mid_len hto] at hi
  rw [mid_get c hi, mid_get l hi]
  exact h _ (by omega)
/-- The two lines are one. -/
theorem line_same {c l : List Int} {base : Int} {fr tq : Nat} (h : Seps c l) (hto : tq ≤ l.length) : LX (mid c fr tq) (mid l fr tq) base (tq - fr) 0 = LI c l base fr tq := by
  rw [LX_LI (seps_mid h hto) (mid_len hto)]
  unfold LI
  rw [Nat.sub_zero]
  refine List.map_congr_left fun k hk => ?_
  rw [List.mem_range] at hk
  rw [Nat.zero_add]
  unfold li
  rw [rs_mid c l (tq - fr - k) k (by omega), mid_get l hk, show tq - fr - k = tq - (fr + k) by omega]
end Od
end Go.Proofs.YtmdmehopefgndaaGreatDoor

/- Where places stand in an order; an order cut where the level changes: plain mathematics. -/
namespace Go.Proofs.YtmdmehopefgndaaGreatDoor
set_option linter.unusedVariables false
namespace Od
/-- The first k of an order may be. -/
structure Orderly (o : List Int) (n : Int) (k : Nat) : Prop where
  range : ∀ i, i < k → 0 ≤ o.getD i 0 ∧ o.getD i 0 < n
  once : ∀ i j, i < j → j < k → ¬ o.getD i 0 = o.getD j 0
section
variable {o : List Int} {n : Int}
theorem Orderly.zero : Orderly o n 0 := ⟨fun i h => absurd h (by omega), fun i j _ h => absurd h (by omega)⟩
theorem Orderly.succ {k : Nat} (h : Orderly o n k) (h1 : 0 ≤ o.getD k 0 ∧ o.getD k 0 < n) (h2 : ∀ i, i < k → ¬ o.getD i 0 = o.getD k 0) : Orderly o n (k + 1) := by
  refine ⟨fun i hi => ?_, fun i j hij hj => ?_⟩
  · by_cases e : i = k
    · subst e; exact h1
    · exact h.range i (by omega)
  · by_cases e : j = k
    · subst e; exact h2 i hij
    · exact h.once i j hij (by omega)
theorem Orderly.less {k m : Nat} (h : Orderly o n k) (hm : m ≤ k) : Orderly o n m := ⟨fun i hi => h.range i (by omega), fun i j hij hj => h.once i j hij (by omega)⟩
end
/-- Where x stands in the first k of an order; -1, if it does not. -/
def ps (o : List Int) (x : Int) : Nat → Int
  | 0 => -1
  | k + 1 => if o.getD k 0 = x then (k : Int) else ps o x k
theorem ps_is (o : List Int) (x : Int) : ∀ k, (ps o x k = -1 ∧ ∀ j, j < k → ¬ o.getD j 0 = x) ∨ ∃ j, j < k ∧ ps o x k = (j : Int) ∧ o.getD j 0 = x
  | 0 => .inl ⟨rfl, fun j h => absurd h (by omega)⟩
  | k + 1 => by
    rw [ps]
    split
    · rename_i h
      exact .inr ⟨k, by omega, rfl, h⟩
    · rename_i h
      rcases ps_is o x k with ⟨h1, h2⟩ | ⟨j, h1, h2, h3⟩
      · refine .inl ⟨h1, fun j hj => ?_⟩
        by_cases e : j = k
        · subst e; exact h
        · exact h2 j (by omega)
      · exact .inr ⟨j, by omega, h2, h3⟩
theorem ps_none {o : List Int} {x : Int} {k : Nat} (h : ∀ j, j < k → ¬ o.getD j 0 = x) : ps o x k = -1 := by
  rcases ps_is o x k with ⟨h1, _⟩ | ⟨j, h1, h2, h3⟩
  · exact h1
  · exact absurd h3 (h j h1)
theorem ps_at {o : List Int} {n : Int} {k j : Nat} (h : Orderly o n k) (hj : j < k) : ps o (o.getD j 0) k = (j : Int) := by
  rcases ps_is o (o.getD j 0) k with ⟨_, h2⟩ | ⟨i, h1, h2, h3⟩
  · exact absurd rfl (h2 j hj)
  · rw [h2]
    by_cases e : i = j
    · rw [e]
    · rcases Nat.lt_or_gt_of_ne e with e | e
      · exact absurd h3 (h.once i j e hj)
      · exact absurd h3.symm (h.once j i e h1)
theorem ps_neg {o : List Int} {x : Int} {k : Nat} : ps o x k < 0 ↔ ∀ j, j < k → ¬ o.getD j 0 = x := by
  rcases ps_is o x k with ⟨h1, h2⟩ | ⟨j, h1, h2, h3⟩
  · exact ⟨fun _ => h2, fun _ => by omega⟩
  · exact ⟨fun _ => by omega, fun h => absurd h3 (h j h1)⟩
/-- Of each of n places where it stands in the first k. -/
def CO (o : List Int) (n k : Nat) : List Int := (List.range n).map fun (i : Nat) => ps o (i : Int) k
theorem CO_len (o : List Int) (n k : Nat) : (CO o n k).length = n := by simp [CO]
theorem CO_at {o : List Int} {n k i : Nat} (h : i < n) : (CO o n k).getD i 0 = ps o (i : Int) k := by simp [CO, List.getD, h]
theorem CO_zero (o : List Int) (n : Nat) : CO o n 0 = List.replicate n (-1) := by
  refine List.ext_getElem (by simp [CO]) fun i h1 h2 => ?_
  simp [CO, ps]
theorem CO_put {o : List Int} {n k : Nat} (h : 0 ≤ o.getD k 0 ∧ o.getD k 0 < (n : Int)) : (CO o n k).set (o.getD k 0).toNat (k : Int) = CO o n (k + 1) := by
  refine List.ext_getElem (by simp [CO]) fun i h1 h2 => ?_
  rw [List.getElem_set]
  simp only [CO, List.getElem_map, List.getElem_range, ps]
  by_cases e : o.getD k 0 = (i : Int)
  · rw [if_pos e, if_pos (by omega)]
  · rw [if_neg e, if_neg (by omega)]
/-- An order of levels, as numbers. -/
def ON (lv : List Int) : List Int := (OD lv).map fun (x : Nat) => (x : Int)
theorem ON_len (lv : List Int) : (ON lv).length = (OD lv).length := by simp [ON]
theorem ON_at {lv : List Int} {k : Nat} (h : k < (OD lv).length) : (ON lv).getD k 0 = ((OD lv).getD k 0 : Int) := by simp [ON, List.getD, h]
theorem OD_in {lv : List Int} {k : Nat} (h : k < (OD lv).length) : (OD lv).getD k 0 ∈ OD lv := by
  have : (OD lv).getD k 0 = (OD lv)[k] := by simp [List.getD, h]
  rw [this]
  exact List.getElem_mem h
theorem OD_once {lv : List Int} (h : Fo lv) {i j : Nat} (hi : i < (OD lv).length) (hj : j < (OD lv).length) (e : (OD lv).getD i 0 = (OD lv).getD j 0) : i = j := by
  have e1 : (OD lv).getD i 0 = (OD lv)[i] := by simp [List.getD, hi]
  have e2 : (OD lv).getD j 0 = (OD lv)[j] := by simp [List.getD, hj]
  exact (List.getElem_inj (OD_nodup h)).1 (by rw [← e1, ← e2, e])
theorem ON_orderly {lv : List Int} (h : Fo lv) : Orderly (ON lv) (lv.length : Int) (ON lv).length := by
  refine ⟨fun i hi => ?_, fun i j hij hj => ?_⟩
  · rw [ON_len] at hi
    rw [ON_at hi]
    have := OD_lt h (OD_in hi)
    omega
  · rw [ON_len] at hj
    rw [ON_at (by omega), ON_at hj]
    intro e
    have := OD_once h (i := i) (j := j) (by omega) hj (by omega)
    omega
theorem seen_col {lv : List Int} (h : Fo lv) {i : Nat} (hi : sn lv i = true) : ∃ k, k < (OD lv).length ∧ (OD lv).getD k 0 = i ∧ ps (ON lv) (i : Int) (ON lv).length = (k : Int) := by
  obtain ⟨h1, h2⟩ := cnt_lt h hi
  refine ⟨cnt lv i lv.length, h1, h2, ?_⟩
  have := ps_at (ON_orderly h) (j := cnt lv i lv.length) (by rw [ON_len]; exact h1)
  rw [ON_at h1, h2] at this
  exact this
theorem unseen_col {lv : List Int} (h : Fo lv) {i : Nat} (hi : sn lv i = false) : ps (ON lv) (i : Int) (ON lv).length = -1 := by
  refine ps_none fun j hj e => ?_
  rw [ON_len] at hj
  rw [ON_at hj] at e
  have hm := ((OD_vis h).mem _).1 (OD_in hj)
  rw [show (OD lv).getD j 0 = i by omega, hi] at hm
  cases hm
/-- How many are seen of the first k. -/
def sc (lv : List Int) : Nat → Nat
  | 0 => 0
  | k + 1 => if 0 ≤ lv.getD k 0 then sc lv k + 1 else sc lv k
theorem sc_filter (lv : List Int) : ∀ k, k ≤ lv.length → sc lv k = ((List.range k).filter (sn lv)).length
  | 0, _ => rfl
  | k + 1, h => by
    rw [sc, List.range_succ, List.filter_append, List.length_append, ← sc_filter lv k (by omega)]
    by_cases h1 : 0 ≤ lv.getD k 0
    · rw [if_pos h1]; simp [sn_of h1 (by omega)]
    · rw [if_neg h1]
      have : sn lv k = false := by unfold sn; exact decide_eq_false fun q => h1 q.2
      simp [this]
theorem sc_OD (lv : List Int) : sc lv lv.length = (OD lv).length := by
  rw [sc_filter lv _ (Nat.le_refl _), OD_len]
  rfl
theorem sc_le (lv : List Int) : ∀ k, sc lv k ≤ k
  | 0 => Nat.le_refl _
  | k + 1 => by have := sc_le lv k; rw [sc]; split <;> omega
/-- Runs: the pieces that lie behind k rounds, and where the next one begins. -/
def rn (lv : List Int) (l : List Nat) : Nat → List (Nat × Nat) × Nat
  | 0 => ([], 0)
  | k + 1 => if k + 1 = l.length ∨ ¬ lv.getD (l.getD (k + 1) 0) 0 = lv.getD (l.getD k 0) 0 then ((rn lv l k).1 ++ [((rn lv l k).2, k + 1)], k + 1) else rn lv l k
section
variable {lv : List Int} {l : List Nat}
theorem rn_cut {k : Nat} (h : k + 1 = l.length ∨ ¬ lv.getD (l.getD (k + 1) 0) 0 = lv.getD (l.getD k 0) 0) : rn lv l (k + 1) = ((rn lv l k).1 ++ [((rn lv l k).2, k + 1)], k + 1) := by rw [rn, if_pos h]
theorem rn_on {k : Nat} (h : ¬ (k + 1 = l.length ∨ ¬ lv.getD (l.getD (k + 1) 0) 0 = lv.getD (l.getD k 0) 0)) : rn lv l (k + 1) = rn lv l k := by rw [rn, if_neg h]
theorem rn_le : ∀ k, (rn lv l k).2 ≤ k
  | 0 => Nat.le_refl _
  | k + 1 => by
    rw [rn]
    split
    · exact Nat.le_refl _
    · have : (rn lv l k).2 ≤ k := rn_le k; omega
theorem rn_end (h : 0 < l.length) : (rn lv l l.length).2 = l.length := by
  obtain ⟨k, hk⟩ : ∃ k, l.length = k + 1 := ⟨l.length - 1, by omega⟩
  rw [hk, rn_cut (.inl hk.symm)]
theorem rn_in : ∀ k p, p ∈ (rn lv l k).1 → p.1 < p.2 ∧ p.2 ≤ (rn lv l k).2
  | 0, p, h => by simp [rn] at h
  | k + 1, p, h => by
    by_cases hc : k + 1 = l.length ∨ ¬ lv.getD (l.getD (k + 1) 0) 0 = lv.getD (l.getD k 0) 0
    · rw [rn_cut hc] at h ⊢
      rcases List.mem_append.1 h with h | h
      · have := rn_in k p h
        have h3 : (rn lv l k).2 ≤ k := rn_le k
        exact ⟨this.1, by simp only; omega⟩
      · rw [List.mem_singleton] at h
        subst h
        have h3 : (rn lv l k).2 ≤ k := rn_le k
        exact ⟨by simp only; omega, Nat.le_refl _⟩
    · rw [rn_on hc] at h ⊢
      exact rn_in k p h
/-- One piece. -/
def pc (l : List Nat) (p : Nat × Nat) : List Nat := (l.take p.2).drop p.1
theorem pc_len {p : Nat × Nat} (h : p.1 < p.2) (h2 : p.2 ≤ l.length) : (pc l p).length = p.2 - p.1 := by unfold pc; rw [List.length_drop, List.length_take]; omega
theorem rn_flat : ∀ k, k ≤ l.length → ((rn lv l k).1.map (pc l)).flatten = l.take (rn lv l k).2
  | 0, _ => by simp [rn]
  | k + 1, h => by
    by_cases hc : k + 1 = l.length ∨ ¬ lv.getD (l.getD (k + 1) 0) 0 = lv.getD (l.getD k 0) 0
    · rw [rn_cut hc, List.map_append, List.flatten_append, rn_flat k (by omega)]
      have h3 : (rn lv l k).2 ≤ k := rn_le k
      simp only [List.map_cons, List.map_nil, List.flatten_cons, List.flatten_nil, List.append_nil]
      unfold pc
      simp only
      rw [show l.take (rn lv l k).2 = (l.take (k + 1)).take (rn lv l k).2 by rw [List.take_take, Nat.min_eq_left (by omega)], List.take_append_drop]
    · rw [rn_on hc]
      exact rn_flat k (by omega)
theorem rn_all : ((rn lv l l.length).1.map (pc l)).flatten = l := by
  rw [rn_flat _ (Nat.le_refl _)]
  rcases Nat.eq_zero_or_pos l.length with h | h
  · rw [List.length_eq_zero_iff] at h
    subst h
    rfl
  · rw [rn_end h, List.take_length]
end
end Od
end Go.Proofs.YtmdmehopefgndaaGreatDoor
