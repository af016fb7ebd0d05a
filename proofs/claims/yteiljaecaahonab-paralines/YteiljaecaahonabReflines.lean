/- The document's lines; like lists of pairs. -/
import Derived.Test.YteiljaecaahonabLines
import Derived.Test.YteiljaecaahonabWorks
import Derived.Test.YteiljaecaahonabCopy
import Derived.Deep.RegionHeld3
import Derived.Deep.RegionHeldLaw
import Derived.Deep.QuietTactic
import Derived.BigQuiet
namespace Go.Proofs.Yteiljaecaahonab
open Go.RowKit
set_option linter.unusedVariables false
set_option maxHeartbeats 1000000
set_option maxRecDepth 100000
theorem belowD2 (w : World) (k : Nat) : Below w.heap.size w (w.drewN k) := by have h := Below.refl w.heap.size w; exact ⟨h.os, h.tape, h.output, h.size, h.block⟩
def KQ (B : Nat) (w0 w : World) : Prop := Below B w0 w
theorem KQ.drew {B : Nat} {w0 w : World} (h : KQ B w0 w) : KQ B w0 w.drew := Below.drew h
theorem step_append2 {P : Program} (w : World) {ops : Array Oper} {o : Oper} {a : Act} {K : Act → World → Prop} {Q : Exit → Act → World → Prop} {E : Prop} (hgd : o.guard = none) (s x : Operand) (t : TypeId)
    (ho : o.op = .call { callee := .builtin .append, args := #[s, x], argTypes := #[t, t] })
    (base : Nat) (e : TypeId) (i : TypeInfo) (z : Value) (ht : P.underlying t = some (.slice e)) (hi : P.info? e = some i) (hz : i.zero = some z)
    (hsize : i.size = 2) (hby : i.bytes = 16) (hzs : z.cells.size = 2)
    (v : Value) (n : Nat) (xs : List Value) (hs : a.eval s = v) (p q : Value) (hown : w.ownsRow base e 2 v n xs)
    (hx : a.eval x = .slice (some ⟨w.heap.size, 0, none⟩) 1 1) (h1 : ∀ u ∈ [p, q], u.oneCell' = true)
    (hn : n ≤ 2199023255552) (hbase : base ≤ w.heap.size)
    (h : ∀ v' w', w'.ownsRow base e 2 v' (n + 1) (xs ++ [p, q]) → Below base w w' → K (a.put o.dst v') w') :
    if Region.wanted o (yielded ops a.tmps) = true then Oper.wp P o a (w.alloc (.cells #[p, q] e)) K Q else E := by
  have hw : Region.wanted o (yielded ops a.tmps) = true := by simp [Region.wanted, hgd]
  rw [if_pos hw]
  have hown' := hown.alloc (.cells #[p, q] e)
  refine wp_append_own _ s x t ho base e i z 2 16 ht hi hz hsize hby hzs (by decide) v n xs hs hown' ⟨w.heap.size, 0, none⟩ 1 1 [p, q] hx rfl (two_new w p q e) h1 (by unfold maxLen; omega) (by omega) (by simp; omega) (fun v' w' g1 g2 _ => h v' w' g1 ?_)
  exact ((Below.refl base w).alloc hbase _).grown g2 (by simp; omega) (fun j hj => (hown'.lt j hj).1)
theorem al_at (fr to : Int) (bs : List Int) {w : World} {ao : Option Addr} {n cap : Nat} (h : Row .i64 w ao n cap (fr :: (bs ++ [to]))) : ∃ b off, ao = some ⟨b, off, none⟩ ∧ b < w.heap.size ∧ ∀ j, j < n → w.cell? ⟨b, off + j, none⟩ = some (.int .i64 (al fr to bs j)) := by
  have hl := h.len
  simp at hl
  obtain ⟨b, off, e, hb, hc⟩ := h.cells (by omega)
  exact ⟨b, off, e, hb, fun j hj => hc j (by simp; omega)⟩
theorem rlines_any (fr to : Int) (ao : Option Addr) (n cap : Nat) (bs : List Int) (w : World) (h : Row .i64 w ao n cap bs) (hn : n * 8 ≤ 140737488351232) :
    Calls Try.prog 9 #[.int .i64 fr, .int .i64 to, .slice ao n cap] w fun e w' => ∃ a1 c1, e = .returned (.tuple #[.slice a1 (lnR fr to bs).length c1, .int .i64 (lnE fr to bs)]) ∧ Pairs w' a1 (lnR fr to bs).length c1 (lnR fr to bs) ∧ Below w.heap.size w w' := by
  by_cases hr : 0 ≤ fr ∧ fr ≤ to ∧ to ≤ 1099511627776
  · have H := hide h
    have HR := hide hr
    have HLEN := hide h.len
    obtain ⟨r1, r2, r3⟩ := hr
    obtain ⟨ie, hie, hz0, hz1, hz2⟩ := info_parts pairInfo
    have HI : Hid (Try.prog.info? 31 = some ie) := hie
    have HZ0 := hide hz0
    have HZ1 := hide hz1
    have HZ2 := hide hz2
    obtain ⟨ii, hii, hy0, hy1, hy2⟩ := info_parts infoInt
    have HII : Hid (Try.prog.info? 3 = some ii) := hii
    have HY0 := hide hy0
    have HY1 := hide hy1
    have HY2 := hide hy2
    have HN := hide hn
    have hn2 : n ≤ 17592186044416 := by omega
    have d1 : decide (fr < 0) = false := decide_eq_false (by omega)
    have d2 : decide (to < fr) = false := decide_eq_false (by omega)
    have d3 : decide (1099511627776 < to) = false := decide_eq_false (by omega)
    have hka : KO w (w.alloc (.cells #[.int .i64 fr] 3)) := KO.alloc (KO.refl _) _
    have HKA := hide hka
    clear h hie hz0 hz1 hz2 hii hy0 hy1 hy2 hn hka
    go_enter Try.func9, Try.ntmps9
    go_wp2_with (first
      | (at_builtin; refine wpList_append_row _ rfl (.tmp 24) (.tmp 25) 22 rfl w.heap.size 3 ii (.int .i64 0) 8 Try.underlying22 HII.out HY0.out HY1.out HY2.out rfl _ 1 [.int .i64 fr] rfl (World.ownsRow_lit w #[.int .i64 fr] 1 (Nat.le_refl _) (by unfold maxLen; omega) rfl) .i64 ao n cap bs rfl (H.out.below HKA.out) (by have := HN.out; omega) (by omega) (by simp) ?_; intro v2 w2 hown2 hb2)
      | (at_builtin; refine wpList_append_row _ rfl (.tmp 26) (.tmp 28) 22 rfl w.heap.size 3 ii (.int .i64 0) 8 Try.underlying22 HII.out HY0.out HY1.out HY2.out rfl _ (1 + n) _ rfl (hown2.alloc _) .i64 _ 1 1 [to] rfl (row_lit .i64 w2 [to] 3 (by unfold maxLen; simp)) (by have := HN.out; omega) (by omega) (by simp; exact Nat.le_trans (Nat.le_succ _) (Nat.le_succ_of_le (Nat.le_trans (by simp) hb2.size))) ?_; intro v3 w3 hown3 hb3))
    have hmap : [.int .i64 fr] ++ bs.map (Value.int .i64) ++ [to].map (Value.int .i64) = (fr :: (bs ++ [to])).map (Value.int .i64) := by simp
    rw [hmap, show 1 + n + 1 = n + 2 from by omega] at hown3
    obtain ⟨a3, c3, rfl, hr3⟩ := row_of_owns hown3
    obtain ⟨b, off, rfl, hbl, hc⟩ := al_at fr to bs hr3
    have HC := hide hc
    have hk3 : KO w w3 := Below.trans (Below.trans HKA.out hb2) (Below.trans ((Below.refl w.heap.size w2).alloc (Nat.le_trans (by simp) hb2.size) _) hb3)
    have HK3 := hide hk3
    have HBL := hide hbl
    clear hown2 hown3 hb2 hb3 hmap hr3 hc hk3 hbl
    go_loopw [9] (fun v wr => ∃ k : Nat, k ≤ n ∧ v = .int .i64 ((k : Int) + 1) ∧ Hid (Good fr to bs k) ∧ Hid (KO w3 wr)) (fun v _ => n + 1 - (intOf v).toNat)
    case atStart => exact ⟨0, Nat.zero_le _, by simp, good_zero _ _ _, KO.refl _⟩
    case round =>
      obtain ⟨k, hk, rfl, hgood, hkr⟩ := hrel
      have hlo := hgood.out.low (by rw [HLEN.out]; exact hk)
      by_cases hlt : k < n
      · have hkl : k < bs.length := by rw [HLEN.out]; exact hlt
        have g0 : wr.cell? ⟨b, off + k, none⟩ = some (.int .i64 (al fr to bs k)) := (Below.cell hkr.out (by exact HBL.out)).trans (HC.out k (by omega))
        have g1 : wr.cell? ⟨b, off + (k + 1), none⟩ = some (.int .i64 (bs.getD k 0)) := by
          have := (Below.cell (p := ⟨b, off + (k + 1), none⟩) hkr.out (by exact HBL.out)).trans (HC.out (k + 1) (by omega))
          rw [al_break fr to bs k hkl] at this; exact this
        have HBR := hide (bad_break (fr := fr) (to := to) hkl)
        have HSN := hide (fun h1 h2 => hgood.out.snoc (k := k) h1 h2)
        obtain ⟨f, hf⟩ : ∃ f, al fr to bs k = f := ⟨_, rfl⟩
        obtain ⟨x, hx⟩ : ∃ x, bs.getD k 0 = x := ⟨_, rfl⟩
        rw [hf] at g0 HBR HSN
        rw [hx] at g1 HBR HSN
        have hin : (k : Int) < (n : Int) := by omega
        have hi2 : (k : Int) + 1 + 1 < (n : Int) + 2 := by omega
        have hnn : ((k : Int) + 1).toNat = k + 1 := by omega
        clear hlo hf hx hkl
        by_cases hx1 : x ≤ f
        · have HBAD := hide (ln_form HR.out (HBR.out (.inl hx1)))
          go_wp2_with fail
          go_quiet (fail)
          go_wp2
          go_ret2
          exact ⟨none, 0, by rw [HBAD.out.1, HBAD.out.2]; rfl, by rw [HBAD.out.2]; exact pairs_nil _, KO.on (KO.on HK3.out hkr.out) (belowD2 _ _)⟩
        · have d4 : decide (x ≤ f) = false := decide_eq_false hx1
          by_cases hx2 : to ≤ x
          · have HBAD := hide (ln_form HR.out (HBR.out (.inr hx2)))
            go_wp2_with fail
            go_quiet (fail)
            go_wp2
            go_ret2
            exact ⟨none, 0, by rw [HBAD.out.1, HBAD.out.2]; rfl, by rw [HBAD.out.2]; exact pairs_nil _, KO.on (KO.on HK3.out hkr.out) (belowD2 _ _)⟩
          · have HG := hide (HSN.out (by omega) (by omega))
            have d5 : decide (to ≤ x) = false := decide_eq_false hx2
            go_wp2_with fail
            go_quiet (fail)
            go_wp2
            go_roundw
            case rel => exact ⟨k + 1, by omega, by go_num, HG, hide (KO.on hkr.out (belowD2 _ _))⟩
            case measure => simp [intOf]; omega
      · obtain rfl : k = n := by omega
        have hGN : Good fr to bs bs.length := by rw [HLEN.out]; exact hgood.out
        have HFEW := hide (show k ≤ 1099511627776 from by have := hGN.few r1 r3; rw [HLEN.out] at this; exact this)
        have HOK := hide (ln_ok (bs := bs) HR.out hGN)
        have HLP := hide (show (lnR fr to bs).length = k + 1 from by rw [HOK.out.2, lnP_len, HLEN.out])
        have HNN := hide (fun (j : Nat) (hj : j ≤ k + 1) => (show ∃ f : Nat, al fr to bs j = (f : Int) from by
          refine ⟨(al fr to bs j).toNat, ?_⟩
          rcases Nat.lt_or_ge j (k + 1) with h | h
          · have := Good.low (fr := fr) (to := to) (bs := bs) (k := j) (fun i hi => hgood.out i (by omega)) (by rw [HLEN.out]; omega)
            omega
          · obtain rfl : j = k + 1 := by omega
            rw [← HLEN.out, al_last]; omega))
        have hne : ¬ ((k : Int) + 1 + 1 < (k : Int) + 2) := by omega
        have HGD := hide hGN
        have HW6 := hide (KO.on HK3.out hkr.out)
        have HC6 := hide (fun (j : Nat) (hj : j < k + 2) => (Below.cell (p := ⟨b, off + j, none⟩) hkr.out (by exact HBL.out)).trans (HC.out j hj))
        have HBL6 := hide (Nat.lt_of_lt_of_le HBL.out (Below.size hkr.out))
        have hbd := build_pair
        have hbo := build_pair1
        clear hlo hlt hGN hk
        go_wp2_with fail
        generalize wr = W6 at *
        go_loopw [10, 11] (fun s10 s11 wr => ∃ j : Nat, j ≤ k + 1 ∧ s11 = .int .i64 ((j : Int) + 1) ∧ Hid (wr.ownsRow W6.heap.size 31 2 s10 j (flat2 (lnP fr to bs j))) ∧ Hid (KQ W6.heap.size W6 wr)) (fun _ s11 _ => k + 2 - (intOf s11).toNat)
        case atStart => exact ⟨0, Nat.zero_le _, by simp, World.ownsRow_nil W6 _ _ _, Below.refl _ _⟩
        case round =>
          obtain ⟨j, hj, rfl, hown, hbel⟩ := hrel
          have hfew := HFEW.out
          by_cases hlt : j < k + 1
          · obtain ⟨f, hf⟩ := HNN.out j (by omega)
            obtain ⟨y, hy⟩ := HNN.out (j + 1) (by omega)
            have g0 : ∀ w', KQ W6.heap.size W6 w' → w'.cell? ⟨b, off + j, none⟩ = some (.int .i64 (f : Int)) := fun w' hk => by rw [← hf]; exact (Below.cell hk (by exact HBL6.out)).trans (HC6.out j (by omega))
            have g1 : ∀ w', KQ W6.heap.size W6 w' → w'.cell? ⟨b, off + (j + 1), none⟩ = some (.int .i64 (y : Int)) := fun w' hk => by rw [← hy]; exact (Below.cell hk (by exact HBL6.out)).trans (HC6.out (j + 1) (by omega))
            have HNX := hide (show lnP fr to bs (j + 1) = lnP fr to bs j ++ [(f, y)] from by rw [lnP_succ, hf, hy]; rfl)
            have hK : KQ W6.heap.size W6 wr := hbel.out
            have hsz := Below.size hbel.out
            have hin : (j : Int) + 1 < (k : Int) + 2 := by omega
            have hin0 : (j : Int) < (k : Int) + 2 := by omega
            have ew : IntKind.i64.wrap ((j : Int) + 1 - 1) = (j : Int) := by rw [IntKind.wrap_i64]; omega
            have ew2 : IntKind.i64.wrap (j : Int) = (j : Int) := by rw [IntKind.wrap_i64]; omega
            clear hf hy
            go_wp2
            refine wp_region_noPanic ?_
            go_region_held_law (fun w' => KQ W6.heap.size W6 w') (first | exact KQ.drew hK | assumption | exact Below.alloc (KQ.drew hK) hsz _)
              (first | (refine step_append2 wr.drew rfl (.tmp 61) (.tmp 72) 23 rfl W6.heap.size 31 ie _ Try.underlying23 HI.out HZ0.out HZ1.out HZ2.out rfl _ j _ rfl (.int .i64 (f : Int)) (.int .i64 (y : Int)) (World.ownsRow.drew hown.out) rfl (by simp [Value.oneCell']) (by omega) hsz ?_; intro v' w' ho' hb'; have hk' : KQ W6.heap.size W6 w' := Below.trans (KQ.drew hK) hb'))
            all_goals
              refine NoPanic.normal ?_
              have HO := hide ho'
              have HK := hide hk'
              clear ho' hb' hk' hK hown hbel g0 g1
              go_wp2
              go_roundw
              case rel => exact ⟨j + 1, by omega, by go_num, by rw [HNX.out, flat2_snoc]; exact HO, HK⟩
              case measure => simp [intOf]; omega
          · obtain rfl : j = k + 1 := by omega
            obtain ⟨a2, c2, rfl, hp⟩ := pairs_of_owns hown.out
            have HP := hide hp
            have HBW := hide (KO.on HW6.out hbel.out)
            have hne2 : ¬ (((k + 1 : Nat) : Int) + 1 < (k : Int) + 2) := by omega
            clear hown hbel hp hlt hj
            go_wp2
            go_ret2
            refine ⟨a2, c2, by rw [HLP.out, HOK.out.1]; rfl, ?_, HBW.out⟩
            rw [HLP.out, HOK.out.2, HLEN.out]
            exact HP.out
  · obtain ⟨q1, q2⟩ := ln_range (bs := bs) hr
    rw [q1, q2]
    clear h hn q1 q2
    have hr2 : fr < 0 ∨ (¬ fr < 0 ∧ 1099511627776 < to) ∨ (¬ fr < 0 ∧ ¬ 1099511627776 < to ∧ to < fr) := by omega
    rcases hr2 with h1 | ⟨h1, h2⟩ | ⟨h1, h2, h3⟩
    all_goals
      clear hr
      go_enter Try.func9, Try.ntmps9
      go_wp2
      go_ret2
      exact ⟨none, 0, rfl, pairs_nil _, Below.refl _ _⟩
end Go.Proofs.Yteiljaecaahonab
