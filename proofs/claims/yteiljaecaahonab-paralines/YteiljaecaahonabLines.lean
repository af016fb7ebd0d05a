/- Lines: the lines between breaks. -/
import Derived.Test.YteiljaecaahonabPars
import Derived.Test.YteiljaecaahonabPairs
import Derived.Test.YteiljaecaahonabMove
import Derived.OwnWalk
namespace Go.Proofs.Yteiljaecaahonab
open Go.RowKit
set_option linter.unusedVariables false
set_option maxHeartbeats 1000000
set_option maxRecDepth 100000
/-- From from over the breaks to to: place j. -/
def al (fr to : Int) (bs : List Int) (j : Nat) : Int := (fr :: (bs ++ [to])).getD j 0
theorem al_zero (fr to : Int) (bs : List Int) : al fr to bs 0 = fr := rfl
theorem al_break (fr to : Int) (bs : List Int) (j : Nat) (h : j < bs.length) : al fr to bs (j + 1) = bs.getD j 0 := by
  simp [al, List.getD, List.getElem?_append_left h]
theorem al_last (fr to : Int) (bs : List Int) : al fr to bs (bs.length + 1) = to := by
  simp [al, List.getD]
/-- The first k breaks rise, and are below to. -/
def Good (fr to : Int) (bs : List Int) (k : Nat) : Prop := ∀ j, j < k → al fr to bs j < bs.getD j 0 ∧ bs.getD j 0 < to
instance (fr to : Int) (bs : List Int) (k : Nat) : Decidable (Good fr to bs k) := by unfold Good; exact inferInstance
theorem good_zero (fr to : Int) (bs : List Int) : Good fr to bs 0 := fun j h => by omega
theorem Good.snoc {fr to : Int} {bs : List Int} {k : Nat} (h : Good fr to bs k) (h1 : al fr to bs k < bs.getD k 0) (h2 : bs.getD k 0 < to) : Good fr to bs (k + 1) := fun j hj => by
  rcases Nat.lt_or_ge j k with h3 | h3
  · exact h j h3
  · obtain rfl : j = k := by omega
    exact ⟨h1, h2⟩
theorem Good.low {fr to : Int} {bs : List Int} {k : Nat} (h : Good fr to bs k) (hk : k ≤ bs.length) : fr + (k : Int) ≤ al fr to bs k := by
  induction k with
  | zero => rw [al_zero]; omega
  | succ k ih =>
    have h1 := ih (fun j hj => h j (by omega)) (by omega)
    have h2 := (h k (by omega)).1
    rw [al_break fr to bs k (by omega)]
    omega
theorem Good.few {fr to : Int} {bs : List Int} (h : Good fr to bs bs.length) (h0 : 0 ≤ fr) (ht : to ≤ 1099511627776) : bs.length ≤ 1099511627776 := by
  cases hn : bs.length with
  | zero => omega
  | succ n =>
    have h1 := h.low (Nat.le_refl _)
    rw [hn] at h h1
    have h2 := (h n (by omega)).2
    rw [al_break fr to bs n (by omega)] at h1
    omega
/-- The first k lines. -/
def lnP (fr to : Int) (bs : List Int) (k : Nat) : List (Nat × Nat) := (List.range k).map fun j => ((al fr to bs j).toNat, (al fr to bs (j + 1)).toNat)
theorem lnP_len (fr to : Int) (bs : List Int) (k : Nat) : (lnP fr to bs k).length = k := by simp [lnP]
theorem lnP_succ (fr to : Int) (bs : List Int) (k : Nat) : lnP fr to bs (k + 1) = lnP fr to bs k ++ [((al fr to bs k).toNat, (al fr to bs (k + 1)).toNat)] := by
  simp [lnP, List.range_succ]
def lnE (fr to : Int) (bs : List Int) : Int := if 0 ≤ fr ∧ fr ≤ to ∧ to ≤ 1099511627776 then (if Good fr to bs bs.length then 0 else 50) else 4
def lnR (fr to : Int) (bs : List Int) : List (Nat × Nat) := if lnE fr to bs = 0 then lnP fr to bs (bs.length + 1) else []
theorem ln_range {fr to : Int} {bs : List Int} (h : ¬ (0 ≤ fr ∧ fr ≤ to ∧ to ≤ 1099511627776)) : lnE fr to bs = 4 ∧ lnR fr to bs = [] := by
  have h1 : lnE fr to bs = 4 := by unfold lnE; rw [if_neg h]
  exact ⟨h1, by unfold lnR; rw [h1]; rfl⟩
theorem ln_form {fr to : Int} {bs : List Int} (h : 0 ≤ fr ∧ fr ≤ to ∧ to ≤ 1099511627776) (hg : ¬ Good fr to bs bs.length) : lnE fr to bs = 50 ∧ lnR fr to bs = [] := by
  have h1 : lnE fr to bs = 50 := by unfold lnE; rw [if_pos h, if_neg hg]
  exact ⟨h1, by unfold lnR; rw [h1]; rfl⟩
theorem ln_ok {fr to : Int} {bs : List Int} (h : 0 ≤ fr ∧ fr ≤ to ∧ to ≤ 1099511627776) (hg : Good fr to bs bs.length) : lnE fr to bs = 0 ∧ lnR fr to bs = lnP fr to bs (bs.length + 1) := by
  have h1 : lnE fr to bs = 0 := by unfold lnE; rw [if_pos h, if_pos hg]
  exact ⟨h1, by unfold lnR; rw [if_pos h1]⟩
theorem range_not {fr to : Int} (h : ¬ (0 ≤ fr ∧ fr ≤ to ∧ to ≤ 1099511627776)) : fr < 0 ∨ (¬ fr < 0 ∧ to < fr) ∨ (¬ fr < 0 ∧ ¬ to < fr ∧ 1099511627776 < to) := by omega
theorem bad_break {fr to : Int} {bs : List Int} {k : Nat} (hk : k < bs.length) (h : bs.getD k 0 ≤ al fr to bs k ∨ to ≤ bs.getD k 0) : ¬ Good fr to bs bs.length := fun hg => by
  have := hg k hk
  omega
theorem lines_any (fr to : Int) (ao : Option Addr) (n cap : Nat) (bs : List Int) (w : World) (h : Row .i64 w ao n cap bs) (hn : n * 8 ≤ 140737488351232) :
    Calls Try.prog 8 #[.int .i64 fr, .int .i64 to, .slice ao n cap] w fun e w' => ∃ a1 c1, e = .returned (.tuple #[.slice a1 (lnR fr to bs).length c1, .int .i64 (lnE fr to bs)]) ∧ Pairs w' a1 (lnR fr to bs).length c1 (lnR fr to bs) ∧ Below w.heap.size w w' := by
  by_cases hr : 0 ≤ fr ∧ fr ≤ to ∧ to ≤ 1099511627776
  · have hlen := h.len
    have H := hide h
    have HR := hide hr
    have HLEN := hide hlen
    obtain ⟨r1, r2, r3⟩ := hr
    obtain ⟨ie, hie, hz0, hz1, hz2⟩ := info_parts pairInfo
    have HI : Hid (Try.prog.info? 31 = some ie) := hie
    have HZ0 := hide hz0
    have HZ1 := hide hz1
    have HZ2 := hide hz2
    have hbd := build_pair
    have hbo := build_pair1
    have HB2 : Hid (ie.bytes * (n + 1) ≤ 281474976710656) := by rw [hz2]; exact (by omega : 16 * (n + 1) ≤ 281474976710656)
    have HB3 : Hid (n + 1 ≤ maxLen) := by unfold Hid maxLen; omega
    have hn2 : n ≤ 17592186044416 := by omega
    have d1 : decide (fr < 0) = false := decide_eq_false (by omega)
    have d2 : decide (to < fr) = false := decide_eq_false (by omega)
    have d3 : decide (1099511627776 < to) = false := decide_eq_false (by omega)
    clear h hlen hie hz0 hz1 hz2 hn
    go_enter Try.func8, Try.ntmps8
    go_wp2_with (at_make; refine wpList_make_own _ rfl _ _ 23 rfl w.heap.size 31 ie _ 2 Try.underlying23 HI.out HZ0.out HZ1.out _ _ _ (n + 1) rfl rfl rfl HB2.out HB3.out (Nat.le_refl _) ?_; intro w2 hown2 hg2)
    have hb2 : Below w.heap.size w w2 := (Below.refl _ w).grown hg2 (Nat.le_refl _) (fun k e => by cases e)
    have HO2 := hide hown2
    have HBB2 := hide hb2
    clear hown2 hg2 hb2
    go_loopw [8, 9, 30] (fun s8 s9 s30 wr => ∃ k : Nat, k ≤ n ∧ s30 = .int .i64 (k : Int) ∧ s9 = .int .i64 (al fr to bs k) ∧ s8 = .slice (some ⟨w.heap.size, 0, none⟩) k (n + 1) ∧ Hid (wr.ownsRow w.heap.size 31 2 (.slice (some ⟨w.heap.size, 0, none⟩) k (n + 1)) k (flat2 (lnP fr to bs k))) ∧ Hid (Good fr to bs k) ∧ Hid (Below w.heap.size w wr)) (fun _ _ s30 _ => n - (intOf s30).toNat)
    case atStart => exact ⟨0, Nat.zero_le _, rfl, rfl, rfl, HO2, good_zero _ _ _, HBB2⟩
    case round =>
      obtain ⟨k, hk, rfl, rfl, rfl, hown, hgood, hbel⟩ := hrel
      have hlo := hgood.out.low (by rw [HLEN.out]; exact hk)
      obtain ⟨f, hf⟩ : ∃ f : Nat, al fr to bs k = (f : Int) := ⟨(al fr to bs k).toNat, by omega⟩
      have hsz := hbel.out.size
      rw [hf]
      by_cases hlt : k < n
      · obtain ⟨b, off, rfl, hbl, hc⟩ := H.out.cells (by omega)
        have hkl : k < bs.length := by rw [HLEN.out]; exact hlt
        have ck : wr.cell? ⟨b, off + k, none⟩ = some (.int .i64 (bs.getD k 0)) := (hbel.out.cell (by exact hbl)).trans (hc k hkl)
        have HX := hide (al_break fr to bs k hkl)
        have HBR := hide (bad_break (fr := fr) (to := to) hkl)
        obtain ⟨x, hx⟩ : ∃ x, bs.getD k 0 = x := ⟨_, rfl⟩
        rw [hx] at ck
        have HXX := hide hx
        have hin : (k : Int) < (n : Int) := by omega
        have HF := hide hf
        clear hc hx hkl hlo hf
        by_cases hx1 : x ≤ (f : Int)
        · have HBAD := hide (ln_form HR.out (HBR.out (.inl (by rw [HXX.out, HF.out]; exact hx1))))
          go_wp2_with fail
          go_ret2
          exact ⟨none, 0, by rw [HBAD.out.1, HBAD.out.2]; rfl, by rw [HBAD.out.2]; exact pairs_nil _, hbel.out⟩
        · by_cases hx2 : to ≤ x
          · have HBAD := hide (ln_form HR.out (HBR.out (.inr (by rw [HXX.out]; exact hx2))))
            go_wp2_with fail
            go_ret2
            exact ⟨none, 0, by rw [HBAD.out.1, HBAD.out.2]; rfl, by rw [HBAD.out.2]; exact pairs_nil _, hbel.out⟩
          · obtain ⟨y, hy⟩ : ∃ y : Nat, x = (y : Int) := ⟨x.toNat, by omega⟩
            subst hy
            have HG := hide (hgood.out.snoc (by rw [HXX.out, HF.out]; omega) (by rw [HXX.out]; omega))
            have HNX := hide (show lnP fr to bs (k + 1) = lnP fr to bs k ++ [(f, y)] from by rw [lnP_succ, HF.out, HX.out, HXX.out]; rfl)
            have HAL := hide (show al fr to bs (k + 1) = (y : Int) from by rw [HX.out, HXX.out])
            go_wp2_with (at_builtin; refine wpList_append_fits _ rfl _ _ 23 rfl w.heap.size 31 ie 2 Try.underlying23 HI.out HZ1.out w.heap.size k (n + 1) _ rfl (hown.out.alloc _) ⟨wr.heap.size, 0, none⟩ 1 1 [.int .i64 (f : Int), .int .i64 (y : Int)] rfl rfl (two_new wr _ _ _) (by simp [Value.oneCell']) (by omega) ?_; intro w3 hown3 hg3)
            have HO3 := hide hown3
            have HB3 := hide (show Below w.heap.size w w3 from (hbel.out.alloc hsz _).grown hg3 (by simp; omega) (fun j e => by cases e; exact Nat.le_refl _))
            clear hown3 hg3
            go_roundw
            case rel => exact ⟨k + 1, by omega, by go_num, by rw [HAL.out], rfl, by rw [HNX.out, flat2_snoc]; exact HO3, HG, HB3⟩
            case measure => simp [intOf]; omega
      · obtain rfl : k = n := by omega
        have hne : ¬ ((k : Int) < (k : Int)) := by omega
        obtain ⟨t, ht⟩ : ∃ t : Nat, to = (t : Int) := ⟨to.toNat, by omega⟩
        have HOK := hide (ln_ok (bs := bs) HR.out (by rw [HLEN.out]; exact hgood.out))
        have HNX := hide (show lnP fr to bs (k + 1) = lnP fr to bs k ++ [(f, t)] from by rw [lnP_succ, hf, ← HLEN.out, al_last, ht]; rfl)
        have HLP := hide (show (lnR fr to bs).length = k + 1 from by rw [HOK.out.2, lnP_len, HLEN.out])
        subst ht
        clear hlo hf hlt
        go_wp2_with (at_builtin; refine wpList_append_fits _ rfl _ _ 23 rfl w.heap.size 31 ie 2 Try.underlying23 HI.out HZ1.out w.heap.size k (k + 1) _ rfl (hown.out.alloc _) ⟨wr.heap.size, 0, none⟩ 1 1 [.int .i64 (f : Int), .int .i64 (t : Int)] rfl rfl (two_new wr _ _ _) (by simp [Value.oneCell']) (by omega) ?_; intro w3 hown3 hg3)
        have HB3 := hide (show Below w.heap.size w w3 from (hbel.out.alloc hsz _).grown hg3 (by simp; omega) (fun j e => by cases e; exact Nat.le_refl _))
        have hown4 : w3.ownsRow w.heap.size 31 2 (.slice (some ⟨w.heap.size, 0, none⟩) (k + 1) (k + 1)) (k + 1) (flat2 (lnP fr (t : Int) bs (k + 1))) := by rw [HNX.out, flat2_snoc]; exact hown3
        obtain ⟨a2, c2, e2, hp⟩ := pairs_of_owns hown4
        have HP := hide hp
        have HE2 := hide e2
        clear hown3 hown4 hg3 hp e2
        go_ret2
        refine ⟨_, _, by rw [HLP.out, HOK.out.1]; exact congrArg (fun v => Ending.returned (Value.tuple #[v, .int .i64 0])) HE2.out, ?_, HB3.out⟩
        rw [HLP.out, HOK.out.2, HLEN.out]
        exact HP.out
  · obtain ⟨q1, q2⟩ := ln_range (bs := bs) hr
    rw [q1, q2]
    clear h hn q1 q2
    rcases range_not hr with h1 | ⟨h1, h2⟩ | ⟨h1, h2, h3⟩
    all_goals
      clear hr
      go_enter Try.func8, Try.ntmps8
      go_wp2
      go_ret2
      exact ⟨none, 0, rfl, pairs_nil _, Below.refl _ _⟩
end Go.Proofs.Yteiljaecaahonab
