/- Line: the program's. -/
import Derived.Test.YtanoifkegfalgaaLi13
namespace Go.Proofs.Ytanoifkegfalgaa
open Go.RowKit
set_option linter.unusedVariables false
set_option maxHeartbeats 2000000
set_option maxRecDepth 100000
theorem nil_yes (w : World) : (binOp BinOp.eql 22 (.slice none 0 0) (.slice none 0 0)).run Try.prog w = .ok (.bool true) w := by kernel_rfl
theorem nil_no (ad : Addr) (n cap : Nat) (w : World) : (binOp BinOp.eql 22 (.slice (some ad) n cap) (.slice none 0 0)).run Try.prog w = .ok (.bool false) w := by kernel_rfl
theorem clone_any (ao : Option Addr) (n cap : Nat) (l : List Int) (w : World) (h : Row .i64 w ao n cap l) (hn : n * 8 ≤ 140737488351232) :
    Calls Try.prog 20 #[.slice ao n cap] w fun e w' => ∃ v, e = .returned v ∧ w'.ownsRow w.heap.size 3 1 v n (l.map (Value.int .i64)) ∧ KO w w' := by
  obtain ⟨ii, hii, hy0, hy1, hy2⟩ := info_parts infoInt
  have HII : Hid (Try.prog.info? 3 = some ii) := hii
  have HY0 := hide hy0
  have HY1 := hide hy1
  have HY2 := hide hy2
  cases ao with
  | none =>
    have hcap := h.nil rfl
    have hn0 : n = 0 := by have := h.le; omega
    subst hcap hn0
    have hl : l = [] := List.length_eq_zero_iff.1 h.len
    subst hl
    have hnil := nil_yes w
    clear h
    go_enter Try.func20, Try.ntmps20
    go_wp2
    go_ret
    exact ⟨_, rfl, World.ownsRow_nil _ _ _ _, KO.refl w⟩
  | some ad =>
    have HR := hide (h.below (KO.alloc (KO.refl w) (.cells #[] 3)))
    have HE := hide (owns_empty w 3 w.heap.size rfl)
    have HK := hide (KO.alloc (KO.refl w) (.cells #[] 3))
    have hnil := nil_no ad n cap w
    clear h
    go_enter Try.func20, Try.ntmps20
    go_wp2_with (at_builtin; refine wpList_append_row _ rfl (.tmp 5) (.tmp 6) 22 rfl w.heap.size 3 ii (.int .i64 0) 8 Try.underlying22 HII.out HY0.out HY1.out HY2.out rfl _ 0 [] rfl HE.out .i64 _ n cap l rfl HR.out ?c1 (by omega) (by simp) ?_)
    case c1 => omega
    intro v2 w2 ho2 hb2
    have HO := hide ho2
    have HB := hide (Below.trans HK.out hb2)
    clear ho2 hb2
    go_wp2
    go_ret
    exact ⟨_, rfl, HO.out, HB.out⟩
theorem reset_none (a b : Option Addr) (cc cap : Nat) (base : Int) (w : World) :
    Calls Try.prog 21 #[.slice a 0 cc, .slice b 0 cap, .int .i64 base] w fun e w' => e = .returned (.tuple #[]) ∧ w = w' := by
  go_enter Try.func21, Try.ntmps21
  go_wp2
  go_step3
  go_wp2
  go_step3
  go_wp2
  refine wp_loop_rounds 1 ?_
  rw [rounds_succ]
  go_wp2
  rw [Exit.noGoto_ret]
  exact bodyPost_ret (results_none rfl _ _ _) rfl ⟨rfl, rfl⟩
/-- reset of a line that the call owns. -/
theorem reset_own (B n cc : Nat) (ac : Option Addr) (v : Value) (c l : List Int) (base : Int) (w0 w : World) (hc : Row .i64 w0 ac n cc c) (hB : w0.heap.size ≤ B) (ho : w.ownsRow B 3 1 v n (l.map (Value.int .i64))) (hb : Below B w0 w) (hn : n ≤ 17592186044416) :
    Calls Try.prog 21 #[.slice ac n cc, v, .int .i64 base] w fun e w' => e = .returned (.tuple #[]) ∧ w'.ownsRow B 3 1 v n ((Od.LX c l base n 0).map (Value.int .i64)) ∧ Below B w0 w' := by
  by_cases h0 : n = 0
  · subst h0
    obtain ⟨a, cap, rfl, _⟩ := owns_form ho
    have hl : l = [] := by have := ho.1; exact List.length_eq_zero_iff.1 (by simpa using this)
    subst hl
    refine (reset_none ac a cc cap base w).mono ?_
    rintro e w' ⟨rfl, rfl⟩
    exact ⟨rfl, ho, hb⟩
  · obtain ⟨g, cap, rfl, hg, hcap⟩ := owns_pos ho (by omega)
    refine (reset_any B g n cc cap ac c l base w0 w hc hB ⟨ho, hb⟩ hn).mono ?_
    rintro e w' ⟨rfl, hw⟩
    exact ⟨rfl, hw.own, hw.bel⟩
/-- What Line asks of classes and levels. -/
def LineGood (nc nl : Nat) (l : List Int) (base : Int) : Prop := nc = nl ∧ 0 ≤ base ∧ base ≤ 1 ∧ Od.Fo l
theorem line_arg (ac al : Option Addr) (nc cc nl cl : Nat) (l : List Int) (base fr to : Int) (w : World) (hl : Row .i64 w al nl cl l) (hb : ¬ LineGood nc nl l base) :
    Calls Try.prog 10 #[.slice ac nc cc, .slice al nl cl, .int .i64 base, .int .i64 fr, .int .i64 to] w fun e w' => e = .returned (.tuple #[.slice none 0 0, .int .i64 2]) ∧ w = w' := by
  have HA := hide (areLevels_any al nl cl l w hl)
  by_cases h1 : nc = nl
  · subst h1
    have h1b : ((nc : Int) != (nc : Int)) = false := by simp
    by_cases h2 : base < 0
    · clear hb hl HA
      go_enter Try.func10, Try.ntmps10
      go_wp2
      go_ret2
      exact ⟨rfl, rfl⟩
    by_cases h3 : 1 < base
    · clear hb hl HA
      go_enter Try.func10, Try.ntmps10
      go_wp2
      go_ret2
      exact ⟨rfl, rfl⟩
    have hf : ¬ Od.Fo l := fun q => hb ⟨rfl, by omega, by omega, q⟩
    rw [decide_eq_false hf] at HA
    clear hb hl hf
    go_enter Try.func10, Try.ntmps10
    go_wp2_with (go_at_call 19; refine HA.out.mono ?_; rintro e w' ⟨rfl, rfl⟩)
    go_ret2
    exact ⟨rfl, rfl⟩
  · have h1b : ((nc : Int) != (nl : Int)) = true := bne_iff_ne.2 (by omega)
    clear hb hl HA
    go_enter Try.func10, Try.ntmps10
    go_wp2
    go_ret2
    exact ⟨rfl, rfl⟩
theorem line_range (ac al : Option Addr) (n cc cl : Nat) (l : List Int) (base fr to : Int) (w : World) (hl : Row .i64 w al n cl l) (hg : LineGood n n l base) (hr : fr < 0 ∨ (n : Int) < to ∨ to < fr) :
    Calls Try.prog 10 #[.slice ac n cc, .slice al n cl, .int .i64 base, .int .i64 fr, .int .i64 to] w fun e w' => e = .returned (.tuple #[.slice none 0 0, .int .i64 4]) ∧ w = w' := by
  have HA := hide (areLevels_any al n cl l w hl)
  rw [decide_eq_true hg.2.2.2] at HA
  have h2 : ¬ base < 0 := by have := hg.2.1; omega
  have h3 : ¬ 1 < base := by have := hg.2.2.1; omega
  clear hg hl
  by_cases r1 : fr < 0
  · clear hr
    go_enter Try.func10, Try.ntmps10
    go_wp2_with (go_at_call 19; refine HA.out.mono ?_; rintro e w' ⟨rfl, rfl⟩)
    go_ret2
    exact ⟨rfl, rfl⟩
  by_cases r2 : (n : Int) < to
  · clear hr
    go_enter Try.func10, Try.ntmps10
    go_wp2_with (go_at_call 19; refine HA.out.mono ?_; rintro e w' ⟨rfl, rfl⟩)
    go_ret2
    exact ⟨rfl, rfl⟩
  have r3 : to < fr := by omega
  clear hr
  go_enter Try.func10, Try.ntmps10
  go_wp2_with (go_at_call 19; refine HA.out.mono ?_; rintro e w' ⟨rfl, rfl⟩)
  go_ret2
  exact ⟨rfl, rfl⟩
/-- A piece of a list. -/
def mid (l : List Int) (fr to : Nat) : List Int := (l.drop fr).take (to - fr)
theorem line_ok (ac al : Option Addr) (n cc cl fr to : Nat) (c l : List Int) (base : Int) (w : World) (hc : Row .i64 w ac n cc c) (hl : Row .i64 w al n cl l) (hg : LineGood n n l base) (hft : fr ≤ to) (hto : to ≤ n) (hn : n * 8 ≤ 140737488351232) :
    Calls Try.prog 10 #[.slice ac n cc, .slice al n cl, .int .i64 base, .int .i64 (fr : Int), .int .i64 (to : Int)] w fun e w' =>
      ∃ v, e = .returned (.tuple #[v, .int .i64 0]) ∧ w'.ownsRow w.heap.size 3 1 v (to - fr) ((Od.LX (mid c fr to) (mid l fr to) base (to - fr) 0).map (Value.int .i64)) ∧ KO w w' := by
  obtain ⟨ii, hii, hy0, hy1, hy2⟩ := info_parts infoInt
  have HA := hide (areLevels_any al n cl l w hl)
  rw [decide_eq_true hg.2.2.2] at HA
  have h2 : ¬ base < 0 := by have := hg.2.1; omega
  have h3 : ¬ 1 < base := by have := hg.2.2.1; omega
  have hlc := hl.le
  have hcc := hc.le
  have r1 : ¬ (fr : Int) < 0 := by omega
  have r2 : ¬ (n : Int) < (to : Int) := by omega
  have r3 : ¬ (to : Int) < (fr : Int) := by omega
  have m1 := fun W => run_mid (P := Try.prog) Try.underlying22 hii cellsInt al n cl fr to hft (by omega) W
  have m2 := fun W => run_mid (P := Try.prog) Try.underlying22 hii cellsInt ac n cc fr to hft (by omega) W
  have HC := hide (clone_any _ _ _ _ w ((hl.drop (j := fr) (by omega)).take (e := to - fr) (by omega)) (by omega))
  have HR := hide (fun v (W : World) (ho : W.ownsRow w.heap.size 3 1 v (to - fr) ((mid l fr to).map (Value.int .i64))) (hb : KO w W) => reset_own w.heap.size (to - fr) (cc - fr) (tl ac cc fr) v (mid c fr to) (mid l fr to) base w W ((hc.drop (j := fr) (by omega)).take (e := to - fr) (by omega)) (Nat.le_refl _) ho hb (by omega))
  clear hg hl hc hii hy0 hy1 hy2
  go_enter Try.func10, Try.ntmps10
  go_wp2_with (first
    | (go_at_call 19; refine HA.out.mono ?_; rintro e w' ⟨rfl, rfl⟩)
    | (go_at_call 20; refine HC.out.mono ?_; rintro e w1 ⟨v, rfl, ho1, hk1⟩; have HR1 := hide (HR.out v w1 ho1 hk1); clear ho1 hk1)
    | (go_at_call 21; refine HR1.out.mono ?_; rintro e w2 ⟨rfl, ho2, hk2⟩; have HO2 := hide ho2; have HK2 := hide hk2; clear ho2 hk2))
  go_ret2
  exact ⟨_, rfl, HO2.out, HK2.out⟩
end Go.Proofs.Ytanoifkegfalgaa
