/- The visual order of any levels. -/
import Derived.Test.YtmcbldllbnjipaaOw
import Derived.Test.YtmcbldllbnjipaaOo
namespace Go.Proofs.Ytmcbldllbnjipaa
open Go.RowKit
set_option linter.unusedVariables false
set_option maxHeartbeats 1000000
set_option maxRecDepth 100000
namespace Od
theorem turn_len (lv : List Int) (k : Int) (P : List Nat) : (turn lv k P).length = P.length := by
  have := (fl_perm (fun x => decide (k ≤ lv.getD x 0)) P []).length_eq
  simpa [turn] using this
/-- Where the turning ends, the order stands. -/
theorem TT.end' {l : List Int} {a b lvl : Int} (h : TT l a b) (hlo : lvl < a) (hor : lvl = b ∨ a - 1 ≤ lvl) {Q : List Nat} (hQ : By l lvl Q) (hf : Fo l) : Q = OD l := by
  have hodd : ∀ z, sn l z = true → l.getD z 0 ≤ lvl → l.getD z 0 % 2 = 0 := fun z hz hle => by
    have h0 := (sn_at hz).2
    by_cases hp : l.getD z 0 % 2 = 1
    · have := h.low z hz hp
      omega
    · omega
  have hev : lvl % 2 = 0 := by
    rcases hor with rfl | hor
    · rcases h.bis with h0 | ⟨z, hz, e⟩
      · omega
      · have := hodd z hz (by omega)
        omega
    · have := h.odd
      omega
  exact Vis.eq (vis_of hev hQ hodd) (OD_vis hf)
theorem TT.start {l : List Int} {a b : Int} (h : TT l a b) : By l b (K l) := K_by fun i hi => by
  by_cases h0 : 0 ≤ l.getD i 0
  · exact h.high i (sn_of h0 hi)
  · have := h.b0
    omega
theorem K_lt {l : List Int} {x : Nat} (hx : x ∈ K l) : x < l.length := (sn_at (List.mem_filter.1 hx).2).1
theorem K_le (l : List Int) : (K l).length ≤ l.length := KP_le l l.length
end Od
theorem order_bad (ao : Option Addr) (n cap : Nat) (l : List Int) (w : World) (h : Row .i64 w ao n cap l) (hf : ¬ Od.Fo l) :
    Calls Try.prog 16 #[.slice ao n cap] w fun e w' => e = .returned (.tuple #[.slice none 0 0, .int .i64 2]) ∧ w = w' := by
  have HA := hide (areLevels_any ao n cap l w h)
  rw [decide_eq_false hf] at HA
  clear h hf
  go_enter Try.func16, Try.ntmps16
  go_wp2_with (go_at_call 23; refine HA.out.mono ?_; rintro e w' ⟨rfl, rfl⟩)
  go_ret2
  exact ⟨rfl, rfl⟩
theorem order_ok (ao : Option Addr) (n cap : Nat) (l : List Int) (w : World) (h : Row .i64 w ao n cap l) (hf : Od.Fo l) (hn : n * 8 ≤ 281474976702464) :
    Calls Try.prog 16 #[.slice ao n cap] w fun e w' => ∃ v, e = .returned (.tuple #[v, .int .i64 0]) ∧ w'.ownsRow w.heap.size 3 1 v (Od.OD l).length ((Od.ON l).map (Value.int .i64)) ∧ KO w w' := by
  have HA := hide (areLevels_any ao n cap l w h)
  rw [decide_eq_true hf] at HA
  have HS := hide (seen_any ao n cap l w h hf hn)
  have HT := hide (fun w' (k : KO w w') => turns_any ao n cap l w' (h.below k) hf)
  have HF := hide hf
  have HR := hide h
  have HL := hide h.len
  have HKn : Hid ((Od.K l).length ≤ 35184372087808) := hide (by have := Od.K_le l; rw [h.len] at this; omega)
  have HKl := hide (fun x (hx : x ∈ Od.K l) => Od.K_lt hx)
  clear h hf
  go_enter Try.func16, Try.ntmps16
  go_wp2_with (first
    | (go_at_call 23; refine HA.out.mono ?_; rintro e w' ⟨rfl, rfl⟩)
    | (go_at_call 24; refine HS.out.mono ?_; rintro e w1 ⟨v, rfl, ho1, hk1⟩; have HO1 := hide ho1; have HK1 := hide hk1; have HT1 := hide (HT.out _ hk1); clear ho1 hk1)
    | (go_at_call 25; refine HT1.out.mono ?_; rintro e w2 ⟨a, b, rfl, ht, hk2⟩; have HO2 := hide (owns_below HO1.out hk2); have HK2 := hide (KO.on HK1.out hk2); have HTT := hide ht; have hb0 := ht.b0; have ha1 := ht.a1; have hb1 := ht.b1; clear hk2 ht))
  go_loopw [7] (fun s7 W => ∃ (lvl : Int) (Q : List Nat), s7 = .int .i64 lvl ∧ lvl ≤ b ∧ Hid (lvl = b ∨ a - 1 ≤ lvl) ∧ Hid (Od.By l lvl Q) ∧ Hid (Q.length = (Od.K l).length) ∧ Hid (W.ownsRow w.heap.size 3 1 v (Od.K l).length ((Od.Z Q).map (Value.int .i64))) ∧ Hid (KO w W)) (fun s7 _ => (intOf s7).toNat)
  case atStart => exact ⟨b, Od.K l, rfl, by omega, hide (.inl rfl), hide HTT.out.start, hide rfl, HO2, HK2⟩
  case round =>
    obtain ⟨lvl, Q, rfl, hle, hor, hby, hlen, ho, hk⟩ := hrel
    by_cases hge : a ≤ lvl
    · have hmem : ∀ x ∈ Q, x < n := fun x hx => by
        have := (Od.sn_at ((hby.out.mem x).1 hx)).1
        rw [HL.out] at this
        exact this
      have HC := hide (oturn_any _ n cap ao v l lvl Q w wr HR.out hk.out ho.out hmem HKn.out)
      have HBY := hide hby.out.turn
      have HLEN : Hid ((Od.turn l lvl Q).length = (Od.K l).length) := hide (by rw [Od.turn_len]; exact hlen.out)
      clear hmem hby hlen ho hk hor
      go_wp2_with (go_at_call 26; refine HC.out.mono ?_; rintro e3 w3 ⟨rfl, hk3, ho3⟩)
      have HK3 := hide hk3
      have HO3 := hide ho3
      clear hk3 ho3
      go_wp2
      go_roundw
      case rel => exact ⟨lvl - 1, _, by first | rfl | go_num, by omega, hide (.inr (by omega)), HBY, HLEN, HO3, HK3⟩
      case measure => simp [intOf]; omega
    · have HQ : Hid (Q = Od.OD l) := hide (HTT.out.end' (by omega) hor.out hby.out HF.out)
      have HO3 : Hid (wr.ownsRow w.heap.size 3 1 v (Od.OD l).length ((Od.ON l).map (Value.int .i64))) := hide (by
        have := ho.out
        rw [← hlen.out, HQ.out] at this
        exact this)
      clear ho hlen hby hor
      go_wp2
      go_ret2
      exact ⟨_, rfl, HO3.out, hk.out⟩
end Go.Proofs.Ytmcbldllbnjipaa
