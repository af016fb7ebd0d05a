/- ExplicitLevels: what levels and types can be. -/
import Derived.Test.YthoganddhoklpaaWorks7
namespace Go.Proofs.Ythoganddhoklpaa
open Go.RowKit
set_option linter.unusedVariables false
set_option maxHeartbeats 1000000
set_option maxRecDepth 100000
theorem lev_rm {b : Int} {s : Ex.St} {c : List Int} {k : Nat} (h : Ex.rm (c.getD k 0) = true) : Ex.lev b s c k = -1 ∧ Ex.typ s c k = c.getD k 0 := by
  unfold Ex.lev Ex.typ Ex.tl Ex.ty
  rw [if_pos h, if_pos h]
  exact ⟨rfl, rfl⟩
theorem lev_sep {b : Int} {s : Ex.St} {c : List Int} {k : Nat} (h : c.getD k 0 = 11) : Ex.lev b s c k = b ∧ Ex.typ s c k = c.getD k 0 := by
  unfold Ex.lev Ex.typ Ex.tl Ex.ty
  rw [h]
  exact ⟨rfl, rfl⟩
theorem lev_any {b : Int} (hb0 : 0 ≤ b) (hb1 : b ≤ 1) {c : List Int} {k : Nat} (h : Ex.rm (c.getD k 0) = false) : b ≤ Ex.lev b (Ex.s0 b) c k ∧ Ex.lev b (Ex.s0 b) c k ≤ 125 ∧ (Ex.typ (Ex.s0 b) c k = c.getD k 0 ∨ Ex.typ (Ex.s0 b) c k = 1 ∨ Ex.typ (Ex.s0 b) c k = 2) := by
  have hok := (Ex.Ok.at (b := b) c k).mid (c.getD k 0)
  have h1 := hok.ch.lo
  have h2 := hok.ch.hi (by omega)
  have h3 := hok.ch.ov
  unfold Ex.lev Ex.typ
  generalize Ex.mid (Ex.at' (Ex.s0 b) c k) (c.getD k 0) = S at *
  generalize c.getD k 0 = x at *
  by_cases hx : x = 11
  · subst hx; exact ⟨Int.le_refl _, show b ≤ 125 by omega, .inl rfl⟩
  · have e1 : Ex.tl b S x = (Ex.hd S.st).lv := by unfold Ex.tl; rw [if_neg (by rw [h]; decide), if_neg hx]
    have e2 : Ex.ty S x = if (Ex.hd S.st).ov = 0 then x else (Ex.hd S.st).ov := by unfold Ex.ty; rw [if_neg (by rw [h]; decide), if_neg hx]
    rw [e1, e2]
    refine ⟨h1, h2, ?_⟩
    split
    · exact .inl rfl
    · omega
theorem base_cases (b : Int) : (¬ b = 0 ∧ ¬ b = 1) ∨ (b = 0 ∨ b = 1) := by omega
theorem ExplicitLevels_walk (w : World) (a0 : Option Addr) (n0 cap0 : Nat) (c : List Int) (h0 : Row .i64 w a0 n0 cap0 c) (hf0 : ∀ x ∈ c, (Lit.int .i64 x).wf = true) (hs0 : n0 * 8 ≤ 140737488351232) (b : Int) (hwb : (Lit.int .i64 b).wf = true) :
    Calls Try.prog 5 #[.slice a0 n0 cap0, .int .i64 b] w fun e w' => e = .returned (.bool true) ∧ Below w.heap.size w w' := by
  have HW := hide (works7_any w)
  have H0 := hide h0
  by_cases hbig : 2000 < (n0 : Int)
  · clear h0 hf0 hs0
    go_enter Try.func5, Try.ntmps5
    go_wp2_with (go_at_call 9; refine HW.out.mono ?_; rintro e w1 ⟨rfl, hb1⟩)
    go_ret
    exact ⟨rfl, hb1⟩
  · rcases base_cases b with hb | hb
    · have HR := hide (fun w' => resolve_arg a0 n0 cap0 b w' hb)
      clear h0 hf0 hs0
      go_enter Try.func5, Try.ntmps5
      go_wp2_with (first
        | (go_at_call 9; refine HW.out.mono ?_; rintro e w1 ⟨rfl, hb1⟩)
        | (go_at_call 10; refine (HR.out _).mono ?_; rintro e w2 ⟨rfl, rfl⟩))
      go_ret
      exact ⟨rfl, hb1⟩
    · by_cases hF : Ex.Formed c
      · have HR := hide (fun w' (hk : KO w w') => resolve_ok a0 n0 cap0 c b w' (h0.below hk) hs0 hb hF)
        have HL := hide h0.len
        have hb0 : 0 ≤ b := by omega
        have hb1' : b ≤ 1 := by omega
        have hn2 : n0 ≤ 2000 := by omega
        clear h0 hf0 hs0 hF
        go_enter Try.func5, Try.ntmps5
        go_wp2_with fail
        refine HW.out.mono ?_
        rintro e w1 ⟨rfl, hb1⟩
        have HB1 := hide hb1
        clear hb1
        go_wp2_with fail
        refine (HR.out w1 HB1.out).mono ?_
        rintro e W ⟨bl, bt, rfl, rl, rt, hb2⟩
        have HRL := hide rl
        have HRT := hide rt
        have HB := hide (HB1.out.trans (hb2.mono HB1.out.size))
        clear rl rt hb2 HB1 HR
        go_wp2_with fail
        go_loopw [46] (fun s46 wr => ∃ k : Nat, k ≤ n0 ∧ s46 = .int .i64 (k : Int) ∧ W = wr) (fun s46 _ => n0 - (intOf s46).toNat)
        case atStart => exact ⟨0, Nat.zero_le _, rfl, rfl⟩
        case round =>
          obtain ⟨k, hk, rfl, rfl⟩ := hrel
          by_cases hlt : k < n0
          · have hkl : k < c.length := by rw [HL.out]; exact hlt
            obtain ⟨cb, off, rfl, hbl, hc⟩ := (H0.out.below HB.out).cells (by omega)
            have ck := hc k hkl
            obtain ⟨_, _, el, _, hcl⟩ := HRL.out.cells (by omega)
            simp only [Option.some.injEq, Addr.mk.injEq, and_true] at el
            obtain ⟨rfl, rfl⟩ := el
            have cl := hcl k (by rw [Ex.LV_len]; exact hkl)
            rw [Ex.LV_at b c k hkl, Nat.zero_add] at cl
            obtain ⟨_, _, et, _, hct⟩ := HRT.out.cells (by omega)
            simp only [Option.some.injEq, Addr.mk.injEq, and_true] at et
            obtain ⟨rfl, rfl⟩ := et
            have ct := hct k (by rw [Ex.TY_len]; exact hkl)
            rw [Ex.TY_at b c k hkl, Nat.zero_add] at ct
            have hin : (k : Int) < (n0 : Int) := by omega
            have HRE := hide (removed_any (c.getD k 0) W)
            have HA1 := hide (lev_rm (b := b) (s := Ex.s0 b) (c := c) (k := k))
            have HA2 := hide (lev_sep (b := b) (s := Ex.s0 b) (c := c) (k := k))
            have HA3 := hide (lev_any hb0 hb1' (c := c) (k := k))
            generalize Ex.lev b (Ex.s0 b) c k = lv at *
            generalize Ex.typ (Ex.s0 b) c k = tv at *
            generalize c.getD k 0 = x at *
            clear hc hcl hct hkl HRL HRT
            cases hr : Ex.rm x with
            | true =>
              obtain ⟨e1, e2⟩ := HA1.out hr
              subst e1 e2
              rw [hr] at HRE
              clear HA1 HA2 HA3 hr
              go_wp2_with (go_at_call 13; refine HRE.out.mono ?_; rintro e w2 ⟨rfl, rfl⟩)
              go_roundw
              case rel => exact ⟨k + 1, by omega, by go_num, trivial⟩
              case measure => simp [intOf]; omega
            | false =>
              obtain ⟨e1, e2, e3⟩ := HA3.out hr
              rw [hr] at HRE
              have g1 : ¬ lv < b := by omega
              have g2 : ¬ 125 < lv := by omega
              by_cases hx : x = 11
              · obtain ⟨f1, f2⟩ := HA2.out hx
                subst f1 f2 hx
                clear HA1 HA2 HA3 hr e3
                go_wp2_with (go_at_call 13; refine HRE.out.mono ?_; rintro e w2 ⟨rfl, rfl⟩)
                go_roundw
                case rel => exact ⟨k + 1, by omega, by go_num, trivial⟩
                case measure => simp [intOf]; omega
              · have hx2 : (x == 11) = false := beq_false_of_ne hx
                clear HA1 HA2 HA3 hr
                by_cases ht : tv = x
                · subst ht
                  clear e3
                  go_wp2_with (go_at_call 13; refine HRE.out.mono ?_; rintro e w2 ⟨rfl, rfl⟩)
                  go_roundw
                  case rel => exact ⟨k + 1, by omega, by go_num, trivial⟩
                  case measure => simp [intOf]; omega
                · have ht2 : (tv != x) = true := bne_iff_ne.2 ht
                  rcases e3 with e3 | e3 | e3
                  · exact absurd e3 ht
                  · subst e3
                    go_wp2_with (go_at_call 13; refine HRE.out.mono ?_; rintro e w2 ⟨rfl, rfl⟩)
                    go_roundw
                    case rel => exact ⟨k + 1, by omega, by go_num, trivial⟩
                    case measure => simp [intOf]; omega
                  · subst e3
                    go_wp2_with (go_at_call 13; refine HRE.out.mono ?_; rintro e w2 ⟨rfl, rfl⟩)
                    go_roundw
                    case rel => exact ⟨k + 1, by omega, by go_num, trivial⟩
                    case measure => simp [intOf]; omega
          · obtain rfl : k = n0 := by omega
            have hne : ¬ ((k : Int) < (k : Int)) := by omega
            go_wp2
            go_ret
            exact ⟨rfl, HB.out⟩
      · have HR := hide (fun w' (hk : KO w w') => resolve_form a0 n0 cap0 c b w' (h0.below hk) hs0 hb hF)
        clear h0 hf0 hs0 hF
        go_enter Try.func5, Try.ntmps5
        go_wp2_with (first
          | (go_at_call 9; refine HW.out.mono ?_; rintro e w1 ⟨rfl, hb1⟩)
          | (go_at_call 10; refine (HR.out _ hb1).mono ?_; rintro e w2 ⟨rfl, rfl⟩))
        go_ret
        exact ⟨rfl, hb1⟩
end Go.Proofs.Ythoganddhoklpaa
