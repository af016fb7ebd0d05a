import Derived.Test.YtfcoebbblfcdoaaGreatDoorZ22
/- The document's answer (colophonref09), its small functions: Wrong, strong, edge. -/
namespace Go.Proofs.YtfcoebbblfcdoaaGreatDoor
open Go.RowKit
set_option linter.unusedVariables false
set_option maxHeartbeats 1000000
set_option maxRecDepth 100000
def rmv (x : Int) : Prop := x = 17 \/ x = 15 \/ x = 18 \/ x = 16 \/ x = 19 \/ x = 10
theorem removed9_yes (x : Int) (w : World) (h : rmv x) : Calls Tryz.prog 53 #[.int .i64 x] w fun e w' => e = .returned (.bool true) /\ w = w' := by
 unfold rmv at h
 rcases h with rfl | rfl | rfl | rfl | rfl | rfl
 all_goals
  go_enter Tryz.func53, Tryz.ntmps53
  go_wp2
  go_ret
  exact ⟨rfl, rfl⟩
theorem removed9_no (x : Int) (w : World) (h : ¬ rmv x) : Calls Tryz.prog 53 #[.int .i64 x] w fun e w' => e = .returned (.bool false) /\ w = w' := by
 unfold rmv at h
 have h1 : (x == 17) = false := beq_false_of_ne (by omega)
 have h2 : (x == 15) = false := beq_false_of_ne (by omega)
 have h3 : (x == 18) = false := beq_false_of_ne (by omega)
 have h4 : (x == 16) = false := beq_false_of_ne (by omega)
 have h5 : (x == 19) = false := beq_false_of_ne (by omega)
 have h6 : (x == 10) = false := beq_false_of_ne (by omega)
 clear h
 go_enter Tryz.func53, Tryz.ntmps53
 go_wp2
 go_ret
 exact ⟨rfl, rfl⟩
theorem rwrong_side (ao : Option Addr) (n cap : Nat) (s : Int) (w : World) (hs : ¬ We.Side s) :
  Calls Tryz.prog 92 #[.slice ao n cap, .int .i64 s] w fun e w' => e = .returned (.int .i64 2) /\ w = w' := by
 have h1 : (s != 1) = true := bne_iff_ne.2 (fun h => hs (.inl h))
 have h2 : (s != 2) = true := bne_iff_ne.2 (fun h => hs (.inr h))
 clear hs
 go_enter Tryz.func92, Tryz.ntmps92
 go_wp2
 go_ret
 exact ⟨rfl, rfl⟩
theorem wmay_cases (x : Int) : (¬ We.May x /\ x < 1) \/ (¬ We.May x /\ ¬ x < 1 /\ 23 < x) \/ (¬ We.May x /\ ¬ x < 1 /\ ¬ 23 < x /\ rmv x) \/ (We.May x /\ ¬ x < 1 /\ ¬ 23 < x /\ ¬ rmv x) := by
 unfold We.May rmv
 omega
theorem rwrong_any (ao : Option Addr) (n cap : Nat) (s : Int) (c : List Int) (w : World) (h : Row .i64 w ao n cap c) (hn : n <= 400) (hs : We.Side s) (R : Int) (hR : (We.Ok c /\ R = 0) \/ (¬ We.Ok c /\ R = 50)) :
  Calls Tryz.prog 92 #[.slice ao n cap, .int .i64 s] w fun e w' => e = .returned (.int .i64 R) /\ w = w' := by
 have H := hide h
 have HL := hide h.len
 have HR := hide hR
 clear h hR
 have hs' := side_tests hs
 clear hs
 rcases hs' with rfl | ⟨h1, rfl⟩
 all_goals
  go_enter Tryz.func92, Tryz.ntmps92
  go_wp2
  go_loopw [5] (fun v wr => ∃ k : Nat, v = .int .i64 (k : Int) /\ k <= n /\ Hid (∀ i, i < k -> We.May (c.getD i 0)) /\ w = wr) (fun v _ => n - (intOf v).toNat)
  case atStart => exact ⟨0, rfl, Nat.zero_le _, hide (fun i hi => by omega), rfl⟩
  case round =>
   obtain ⟨k, rfl, hk, hall, rfl⟩ := hrel
   by_cases hlt : k < n
   ·obtain ⟨b, off, rfl, hbl, hc⟩ := H.out.cells (by omega)
    have ck : w.cell? ⟨b, off + k, none⟩ = some (.int .i64 (c.getD k 0)) := hc k (by rw [HL.out]; exact hlt)
    have hin : (k : Int) < (n : Int) := by omega
    have HBD := hide (fun (h : ¬ We.May (c.getD k 0)) => (show R = 50 from by
     rcases HR.out with ⟨h1, _⟩ | ⟨_, h1⟩
     ·exact absurd (h1 k (by rw [HL.out]; exact hlt)) h
     ·exact h1))
    have HN := hide (fun (h : We.May (c.getD k 0)) (i : Nat) (hi : i < k + 1) => (show We.May (c.getD i 0) from by
     by_cases hik : i = k
     ·rw [hik]; exact h
     ·exact hall.out i (by omega)))
    have HY := hide (fun w' h => removed9_yes (c.getD k 0) w' h)
    have HO := hide (fun w' h => removed9_no (c.getD k 0) w' h)
    have hcs := wmay_cases (c.getD k 0)
    generalize c.getD k 0 = x at *
    clear hc hall HR
    rcases hcs with ⟨hm, x1⟩ | ⟨hm, x1, x2⟩ | ⟨hm, x1, x2, x3⟩ | ⟨hm, x1, x2, x3⟩
    ·have HE := hide (HBD.out hm)
     clear hm HBD HN HY HO
     go_wp2
     go_ret
     exact ⟨ret_int HE.out.symm, rfl⟩
    ·have HE := hide (HBD.out hm)
     clear hm HBD HN HY HO
     go_wp2
     go_ret
     exact ⟨ret_int HE.out.symm, rfl⟩
    ·have HE := hide (HBD.out hm)
     have HC := hide (HY.out w x3)
     clear hm HBD HN HY HO x3
     go_wp2_with (go_at_call 53; refine HC.out.mono ?_; rintro e w' ⟨rfl, rfl⟩)
     go_ret
     exact ⟨ret_int HE.out.symm, rfl⟩
    ·have HA := hide (HN.out hm)
     have HC := hide (HO.out w x3)
     clear hm HBD HN HY HO x3
     go_wp2_with (go_at_call 53; refine HC.out.mono ?_; rintro e w' ⟨rfl, rfl⟩)
     go_roundw
     case rel => exact ⟨k + 1, by go_num, by omega, HA, trivial⟩
     case measure => simp [intOf]; omega
   ·obtain rfl : k = n := by omega
    have hne : ¬ ((k : Int) < (k : Int)) := by omega
    have HE := hide (show R = 0 from by
     rcases HR.out with ⟨_, h1⟩ | ⟨h1, _⟩
     ·exact h1
     ·exact absurd (fun i hi => hall.out i (by rw [HL.out] at hi; omega)) h1)
    clear hlt hall HR
    go_wp2
    go_ret
    exact ⟨ret_int HE.out.symm, rfl⟩
theorem rstrong_any (ao : Option Addr) (n cap : Nat) (s : Int) (i : Nat) (c : List Int) (w : World) (h : Row .i64 w ao n cap c) (hn : n <= 400) (hi : i < n) :
  Calls Tryz.prog 139 #[.slice ao n cap, .int .i64 s, .int .i64 (i : Int)] w fun e w' => e = .returned (.int .i64 (We.strong c s i)) /\ w = w' := by
 obtain ⟨b, off, rfl, hbl, hc⟩ := h.cells (by omega)
 have HC := hide (fun (j : Nat) (hj : j < n) => hc j (by rw [h.len]; exact hj))
 obtain ⟨R, hR⟩ : ∃ R, We.strong c s i = R := ⟨_, rfl⟩
 have HR := hide hR
 rw [hR]
 clear h hc hR
 go_enter Tryz.func139, Tryz.ntmps139
 go_wp2
 go_loopw [7] (fun v wr => ∃ k : Nat, v = .int .i64 ((k : Int) - 1) /\ k <= i /\ Hid (We.strong c s k = R) /\ w = wr) (fun v _ => ((intOf v) + 1).toNat)
 case atStart => exact ⟨i, by go_num, Nat.le_refl _, HR, rfl⟩
 case round =>
  obtain ⟨k, rfl, hk, hst, rfl⟩ := hrel
  cases k with
  | zero =>
   have HE := hide (show s = R from hst.out)
   have hneg : ¬ (0 : Int) <= ((0 : Nat) : Int) - 1 := by omega
   clear hst
   go_wp2
   go_ret
   exact ⟨ret_int HE.out, rfl⟩
  | succ k =>
   have e1 : ((k + 1 : Nat) : Int) - 1 = (k : Int) := by omega
   have ck := HC.out k (by omega)
   have hin : (k : Int) < (n : Int) := by omega
   have hge : (0 : Int) <= (k : Int) := by omega
   have hs := hst.out
   rw [strong_succ] at hs
   have HS := hide hs
   clear hs hst
   rw [e1]
   clear e1
   generalize c.getD k 0 = x at *
   have hcs : ((x = 1 \/ (¬ x = 1 /\ x = 2) \/ (¬ x = 1 /\ ¬ x = 2 /\ x = 3))) \/ (¬ x = 1 /\ ¬ x = 2 /\ ¬ x = 3) := by omega
   rcases hcs with hx | ⟨x1, x2, x3⟩
   ·have HE := hide (show x = R from by have := HS.out; rw [if_pos (by omega)] at this; exact this)
    clear HS
    rcases hx with rfl | ⟨x1, rfl⟩ | ⟨x1, x2, rfl⟩
    all_goals
     go_wp2
     go_ret
     exact ⟨ret_int HE.out, rfl⟩
   ·have HE := hide (show We.strong c s k = R from by have := HS.out; rw [if_neg (by omega)] at this; exact this)
    have f1 : (x == 1) = false := beq_false_of_ne x1
    have f2 : (x == 2) = false := beq_false_of_ne x2
    have f3 : (x == 3) = false := beq_false_of_ne x3
    clear HS x1 x2 x3
    go_wp2
    go_roundw
    case rel => exact ⟨k, by go_num, by omega, HE, trivial⟩
    case measure => first | (simp [intOf]; done) | (simp [intOf]; omega)
theorem redge_left (ao : Option Addr) (n cap : Nat) (i : Nat) (c : List Int) (w : World) (h : Row .i64 w ao n cap c) (hn : n <= 400) (hi : i < n) :
  Calls Tryz.prog 140 #[.slice ao n cap, .int .i64 (i : Int), .int .i64 (-1)] w fun e w' => e = .returned (.int .i64 (We.lf c (i + 1))) /\ w = w' := by
 obtain ⟨b, off, rfl, hbl, hc⟩ := h.cells (by omega)
 have HC := hide (fun (j : Nat) (hj : j < n) => hc j (by rw [h.len]; exact hj))
 obtain ⟨R, hR⟩ : ∃ R, We.lf c (i + 1) = R := ⟨_, rfl⟩
 have HR := hide hR
 rw [hR]
 clear h hc hR
 go_enter Tryz.func140, Tryz.ntmps140
 go_wp2
 go_loopw [1] (fun v wr => ∃ k : Nat, v = .int .i64 ((k : Int) - 1) /\ k <= i + 1 /\ Hid (We.lf c k = R) /\ w = wr) (fun v _ => ((intOf v) + 1).toNat)
 case atStart => exact ⟨i + 1, by go_num, Nat.le_refl _, HR, rfl⟩
 case round =>
  obtain ⟨k, rfl, hk, hst, rfl⟩ := hrel
  cases k with
  | zero =>
   have HE := hide (show 0 = R from hst.out)
   have hneg : ¬ (0 : Int) <= ((0 : Nat) : Int) - 1 := by omega
   clear hst
   go_wp2
   go_ret
   exact ⟨ret_int HE.out, rfl⟩
  | succ k =>
   have e1 : ((k + 1 : Nat) : Int) - 1 = (k : Int) := by omega
   have ck := HC.out k (by omega)
   have hin : (k : Int) < (n : Int) := by omega
   have hge : (0 : Int) <= (k : Int) := by omega
   have hs : (if c.getD k 0 = 6 then We.lf c k else c.getD k 0) = R := hst.out
   have HS := hide hs
   clear hs hst
   rw [e1]
   clear e1
   generalize c.getD k 0 = x at *
   by_cases x6 : x = 6
   ·have HE := hide (show We.lf c k = R from by have := HS.out; rw [if_pos x6] at this; exact this)
    clear HS
    subst x6
    go_wp2
    go_roundw
    case rel => exact ⟨k, by go_num, by omega, HE, trivial⟩
    case measure => simp [intOf]; omega
   ·have HE := hide (show x = R from by have := HS.out; rw [if_neg x6] at this; exact this)
    have f6 : (x == 6) = false := beq_false_of_ne x6
    clear HS x6
    go_wp2
    go_ret
    exact ⟨ret_int HE.out, rfl⟩
theorem redge_right (ao : Option Addr) (n cap : Nat) (i : Nat) (c : List Int) (w : World) (h : Row .i64 w ao n cap c) (hn : n <= 400) (hi : i < n) :
  Calls Tryz.prog 140 #[.slice ao n cap, .int .i64 (i : Int), .int .i64 1] w fun e w' => e = .returned (.int .i64 (We.rt (c.drop i))) /\ w = w' := by
 obtain ⟨b, off, rfl, hbl, hc⟩ := h.cells (by omega)
 have HL := hide h.len
 have HC := hide (fun (j : Nat) (hj : j < n) => hc j (by rw [h.len]; exact hj))
 obtain ⟨R, hR⟩ : ∃ R, We.rt (c.drop i) = R := ⟨_, rfl⟩
 have HR := hide hR
 rw [hR]
 clear h hc hR
 go_enter Tryz.func140, Tryz.ntmps140
 go_wp2
 go_loopw [1] (fun v wr => ∃ k : Nat, v = .int .i64 (k : Int) /\ k <= n /\ Hid (We.rt (c.drop k) = R) /\ w = wr) (fun v _ => n - (intOf v).toNat)
 case atStart => exact ⟨i, rfl, by omega, HR, rfl⟩
 case round =>
  obtain ⟨k, rfl, hk, hst, rfl⟩ := hrel
  have hge : (0 : Int) <= (k : Int) := by omega
  by_cases hlt : k < n
  ·have ck := HC.out k hlt
   have hin : (k : Int) < (n : Int) := by omega
   have hs : (if c.getD k 0 = 6 then We.rt (c.drop (k + 1)) else c.getD k 0) = R := by
    have := hst.out
    rw [We.drop_cons (show k < c.length by rw [HL.out]; exact hlt)] at this
    exact this
   have HS := hide hs
   clear hs hst
   generalize c.getD k 0 = x at *
   by_cases x6 : x = 6
   ·have HE := hide (show We.rt (c.drop (k + 1)) = R from by have := HS.out; rw [if_pos x6] at this; exact this)
    clear HS
    subst x6
    go_wp2
    go_roundw
    case rel => exact ⟨k + 1, by go_num, by omega, HE, trivial⟩
    case measure => simp [intOf]; omega
   ·have HE := hide (show x = R from by have := HS.out; rw [if_neg x6] at this; exact this)
    have f6 : (x == 6) = false := beq_false_of_ne x6
    have hnl : ¬ (n : Int) <= (k : Int) := by omega
    clear HS x6
    go_wp2
    go_ret
    exact ⟨ret_int HE.out, rfl⟩
  ·obtain rfl : k = n := by omega
   have HE := hide (show 0 = R from by
    have := hst.out
    rw [List.drop_of_length_le (by rw [HL.out]; exact Nat.le_refl _)] at this
    exact this)
   have hne : ¬ ((k : Int) < (k : Int)) := by omega
   have hnn : ¬ (k : Int) < 0 := by omega
   clear hst hlt
   go_wp2
   go_ret
   exact ⟨ret_int HE.out, rfl⟩
end Go.Proofs.YtfcoebbblfcdoaaGreatDoor

/- The document's answer (colophonref09): one, rule by rule. -/
namespace Go.Proofs.YtfcoebbblfcdoaaGreatDoor
open Go.RowKit
set_option linter.unusedVariables false
set_option maxHeartbeats 1000000
set_option maxRecDepth 100000
structure On (r : Nat) (s : Int) (c : List Int) (w : World) (ao : Option Addr) (n cap : Nat) (a1 : Option Addr) (c1 i : Nat) : Prop where
 row : Row .i64 w ao n cap c
 out : ∃ zs, Row .i64 w a1 i c1 zs /\ ∀ j, j < i -> zs.getD j 0 = We.pv r s c (j + 1)
 lt : i < n
 le : n <= 400
 side : We.Side s
section
variable {r : Nat} {s : Int} {c : List Int} {w : World} {ao : Option Addr} {n cap : Nat} {a1 : Option Addr} {c1 i : Nat}
theorem On.cell (h : On r s c w ao n cap a1 c1 i) : ∃ b off, ao = some ⟨b, off, none⟩ /\ ∀ j, j < n -> w.cell? ⟨b, off + j, none⟩ = some (.int .i64 (c.getD j 0)) := by
 obtain ⟨b, off, e, _, hc⟩ := h.row.cells (by have := h.lt; omega)
 exact ⟨b, off, e, fun j hj => hc j (by rw [h.row.len]; exact hj)⟩
theorem On.prev {m : Nat} (h : On r s c w ao n cap a1 c1 (m + 1)) : ∃ b off, a1 = some ⟨b, off, none⟩ /\ w.cell? ⟨b, off + m, none⟩ = some (.int .i64 (We.pv r s c (m + 1))) := by
 obtain ⟨zs, hz, hv⟩ := h.out
 obtain ⟨b, off, e, _, hc⟩ := hz.cells (by omega)
 exact ⟨b, off, e, by rw [hc m (by rw [hz.len]; omega), hv m (by omega)]⟩
end
theorem drew0 (w : World) : ∃ k, w = w.drewN k := ⟨0, rfl⟩
theorem rone1 {s : Int} {c : List Int} {w : World} {ao : Option Addr} {n cap : Nat} {a1 : Option Addr} {c1 i : Nat} (h : On 1 s c w ao n cap a1 c1 i) :
  Calls Tryz.prog 118 #[.slice ao n cap, .slice a1 i c1, .int .i64 s, .int .i64 1, .int .i64 (i : Int)] w fun e w' => e = .returned (.int .i64 (We.pv 1 s c (i + 1))) /\ ∃ k, w' = w.drewN k := by
 have hlt := h.lt
 have hle := h.le
 obtain ⟨b, off, rfl, hc⟩ := h.cell
 have ci := hc i hlt
 have hin : (i : Int) < (n : Int) := by omega
 have hp := pv1 s c i
 clear hc
 cases i with
 | zero =>
  have e0 : We.pv 1 s c 0 = s := rfl
  have em : We.mk s = s := by have := h.side; unfold We.Side at this; unfold We.mk; rw [if_neg (by omega)]
  rw [e0, em] at hp
  obtain ⟨R, hR⟩ : ∃ R, We.pv 1 s c (0 + 1) = R := ⟨_, rfl⟩
  rw [hR] at hp ⊢
  have ez : ((0 : Nat) : Int) = 0 := rfl
  rw [ez] at hin ⊢
  rw [Nat.add_zero] at ci
  clear h e0 em hR ez
  generalize c.getD 0 0 = x at *
  by_cases h9 : x = 9
  ·rw [if_pos h9] at hp
   have HP := hide hp
   clear hp
   subst h9
   go_enter Tryz.func118, Tryz.ntmps118
   go_wp2
   go_ret
   exact ⟨ret_int HP.out.symm, drew0 _⟩
  ·rw [if_neg h9] at hp
   have HP := hide hp
   have e9 : (x != 9) = true := bne_iff_ne.2 h9
   clear hp
   go_enter Tryz.func118, Tryz.ntmps118
   go_wp2
   go_ret
   exact ⟨ret_int HP.out.symm, drew0 _⟩
 | succ m =>
  obtain ⟨b1, o1, rfl, cp⟩ := h.prev
  have e1 : ((m + 1 : Nat) : Int) = (m : Int) + 1 := by omega
  rw [e1] at hin ⊢
  obtain ⟨R, hR⟩ : ∃ R, We.pv 1 s c (m + 1 + 1) = R := ⟨_, rfl⟩
  rw [hR] at hp ⊢
  clear h e1 hR
  generalize We.pv 1 s c (m + 1) = p at *
  generalize c.getD (m + 1) 0 = x at *
  have hm1 : (m : Int) < (m : Int) + 1 := by omega
  have hz : ((m : Int) + 1 == 0) = false := beq_false_of_ne (by omega)
  by_cases h9 : x = 9
  ·rw [if_pos h9] at hp
   have HP := hide hp
   clear hp
   subst h9
   have hcs : (p = 20 \/ (¬ p = 20 /\ p = 21) \/ (¬ p = 20 /\ ¬ p = 21 /\ p = 22) \/ (¬ p = 20 /\ ¬ p = 21 /\ ¬ p = 22 /\ p = 23)) \/ (¬ p = 20 /\ ¬ p = 21 /\ ¬ p = 22 /\ ¬ p = 23) := by omega
   rcases hcs with hp | ⟨p1, p2, p3, p4⟩
   ·have HE := hide (show R = 14 from by rw [HP.out]; unfold We.mk; rw [if_pos (by omega)])
    clear HP
    rcases hp with rfl | ⟨p1, rfl⟩ | ⟨p1, p2, rfl⟩ | ⟨p1, p2, p3, rfl⟩
    all_goals
     go_enter Tryz.func118, Tryz.ntmps118
     go_wp2
     go_ret
     exact ⟨ret_int HE.out.symm, drew0 _⟩
   ·have HE := hide (show R = p from by rw [HP.out]; unfold We.mk; rw [if_neg (by omega)])
    have q1 : (p == 20) = false := beq_false_of_ne p1
    have q2 : (p == 21) = false := beq_false_of_ne p2
    have q3 : (p == 22) = false := beq_false_of_ne p3
    have q4 : (p == 23) = false := beq_false_of_ne p4
    clear HP p1 p2 p3 p4
    go_enter Tryz.func118, Tryz.ntmps118
    go_wp2
    go_ret
    exact ⟨ret_int HE.out.symm, drew0 _⟩
  ·rw [if_neg h9] at hp
   have HP := hide hp
   have e9 : (x != 9) = true := bne_iff_ne.2 h9
   clear hp
   go_enter Tryz.func118, Tryz.ntmps118
   go_wp2
   go_ret
   exact ⟨ret_int HP.out.symm, drew0 _⟩
theorem rone2 {s : Int} {c : List Int} {w : World} {ao : Option Addr} {n cap : Nat} {a1 : Option Addr} {c1 i : Nat} (h : On 2 s c w ao n cap a1 c1 i) :
  Calls Tryz.prog 118 #[.slice ao n cap, .slice a1 i c1, .int .i64 s, .int .i64 2, .int .i64 (i : Int)] w fun e w' => e = .returned (.int .i64 (We.pv 2 s c (i + 1))) /\ ∃ k, w' = w.drewN k := by
 have hlt := h.lt
 have hle := h.le
 have HS := hide (rstrong_any ao n cap s i c w h.row hle hlt)
 obtain ⟨b, off, rfl, hc⟩ := h.cell
 have ci := hc i hlt
 have hin : (i : Int) < (n : Int) := by omega
 have hp := pv2 s c i
 obtain ⟨R, hR⟩ : ∃ R, We.pv 2 s c (i + 1) = R := ⟨_, rfl⟩
 rw [hR] at hp ⊢
 clear hc h hR
 generalize We.strong c s i = S at *
 generalize c.getD i 0 = x at *
 by_cases h4 : x = 4
 ·by_cases h3 : S = 3
  ·rw [if_pos ⟨h4, h3⟩] at hp
   have HP := hide hp
   clear hp
   subst h4 h3
   go_enter Tryz.func118, Tryz.ntmps118
   go_wp2_with (go_at_call 139; refine HS.out.mono ?_; rintro e w' ⟨rfl, rfl⟩)
   go_ret
   exact ⟨ret_int HP.out.symm, drew0 _⟩
  ·rw [if_neg (fun h => h3 h.2)] at hp
   have HP := hide hp
   have e3 : (S == 3) = false := beq_false_of_ne h3
   clear hp h3
   subst h4
   go_enter Tryz.func118, Tryz.ntmps118
   go_wp2_with (go_at_call 139; refine HS.out.mono ?_; rintro e w' ⟨rfl, rfl⟩)
   go_ret
   exact ⟨ret_int HP.out.symm, drew0 _⟩
 ·rw [if_neg (fun h => h4 h.1)] at hp
  have HP := hide hp
  have e4 : (x == 4) = false := beq_false_of_ne h4
  clear hp h4 HS
  go_enter Tryz.func118, Tryz.ntmps118
  go_wp2
  go_ret
  exact ⟨ret_int HP.out.symm, drew0 _⟩
theorem rone7 {s : Int} {c : List Int} {w : World} {ao : Option Addr} {n cap : Nat} {a1 : Option Addr} {c1 i : Nat} (h : On 7 s c w ao n cap a1 c1 i) :
  Calls Tryz.prog 118 #[.slice ao n cap, .slice a1 i c1, .int .i64 s, .int .i64 7, .int .i64 (i : Int)] w fun e w' => e = .returned (.int .i64 (We.pv 7 s c (i + 1))) /\ ∃ k, w' = w.drewN k := by
 have hlt := h.lt
 have hle := h.le
 have HS := hide (rstrong_any ao n cap s i c w h.row hle hlt)
 obtain ⟨b, off, rfl, hc⟩ := h.cell
 have ci := hc i hlt
 have hin : (i : Int) < (n : Int) := by omega
 have hp := pv7 s c i
 obtain ⟨R, hR⟩ : ∃ R, We.pv 7 s c (i + 1) = R := ⟨_, rfl⟩
 rw [hR] at hp ⊢
 clear hc h hR
 generalize We.strong c s i = S at *
 generalize c.getD i 0 = x at *
 by_cases h4 : x = 4
 ·by_cases h3 : S = 1
  ·rw [if_pos ⟨h4, h3⟩] at hp
   have HP := hide hp
   clear hp
   subst h4 h3
   go_enter Tryz.func118, Tryz.ntmps118
   go_wp2_with (go_at_call 139; refine HS.out.mono ?_; rintro e w' ⟨rfl, rfl⟩)
   go_ret
   exact ⟨ret_int HP.out.symm, drew0 _⟩
  ·rw [if_neg (fun h => h3 h.2)] at hp
   have HP := hide hp
   have e3 : (S == 1) = false := beq_false_of_ne h3
   clear hp h3
   subst h4
   go_enter Tryz.func118, Tryz.ntmps118
   go_wp2_with (go_at_call 139; refine HS.out.mono ?_; rintro e w' ⟨rfl, rfl⟩)
   go_ret
   exact ⟨ret_int HP.out.symm, drew0 _⟩
 ·rw [if_neg (fun h => h4 h.1)] at hp
  have HP := hide hp
  have e4 : (x == 4) = false := beq_false_of_ne h4
  clear hp h4 HS
  go_enter Tryz.func118, Tryz.ntmps118
  go_wp2
  go_ret
  exact ⟨ret_int HP.out.symm, drew0 _⟩
theorem rone3 {s : Int} {c : List Int} {w : World} {ao : Option Addr} {n cap : Nat} {a1 : Option Addr} {c1 i : Nat} (h : On 3 s c w ao n cap a1 c1 i) :
  Calls Tryz.prog 118 #[.slice ao n cap, .slice a1 i c1, .int .i64 s, .int .i64 3, .int .i64 (i : Int)] w fun e w' => e = .returned (.int .i64 (We.pv 3 s c (i + 1))) /\ ∃ k, w' = w.drewN k := by
 have hlt := h.lt
 have hle := h.le
 obtain ⟨b, off, rfl, hc⟩ := h.cell
 have ci := hc i hlt
 have hin : (i : Int) < (n : Int) := by omega
 have hp := pv3 s c i
 obtain ⟨R, hR⟩ : ∃ R, We.pv 3 s c (i + 1) = R := ⟨_, rfl⟩
 rw [hR] at hp ⊢
 clear hc h hR
 generalize c.getD i 0 = x at *
 by_cases h3 : x = 3
 ·rw [if_pos h3] at hp
  have HP := hide hp
  clear hp
  subst h3
  go_enter Tryz.func118, Tryz.ntmps118
  go_wp2
  go_ret
  exact ⟨ret_int HP.out.symm, drew0 _⟩
 ·rw [if_neg h3] at hp
  have HP := hide hp
  have e3 : (x == 3) = false := beq_false_of_ne h3
  clear hp h3
  go_enter Tryz.func118, Tryz.ntmps118
  go_wp2
  go_ret
  exact ⟨ret_int HP.out.symm, drew0 _⟩
theorem rone6 {s : Int} {c : List Int} {w : World} {ao : Option Addr} {n cap : Nat} {a1 : Option Addr} {c1 i : Nat} (h : On 6 s c w ao n cap a1 c1 i) :
  Calls Tryz.prog 118 #[.slice ao n cap, .slice a1 i c1, .int .i64 s, .int .i64 6, .int .i64 (i : Int)] w fun e w' => e = .returned (.int .i64 (We.pv 6 s c (i + 1))) /\ ∃ k, w' = w.drewN k := by
 have hlt := h.lt
 have hle := h.le
 obtain ⟨b, off, rfl, hc⟩ := h.cell
 have ci := hc i hlt
 have hin : (i : Int) < (n : Int) := by omega
 have hp := pv6 s c i
 obtain ⟨R, hR⟩ : ∃ R, We.pv 6 s c (i + 1) = R := ⟨_, rfl⟩
 rw [hR] at hp ⊢
 clear hc h hR
 generalize c.getD i 0 = x at *
 have hcs : ((x = 5 \/ (¬ x = 5 /\ x = 6) \/ (¬ x = 5 /\ ¬ x = 6 /\ x = 8))) \/ (¬ x = 5 /\ ¬ x = 6 /\ ¬ x = 8) := by omega
 rcases hcs with hx | ⟨x1, x2, x3⟩
 ·rw [if_pos (by omega)] at hp
  have HP := hide hp
  clear hp
  rcases hx with rfl | ⟨x1, rfl⟩ | ⟨x1, x2, rfl⟩
  all_goals
   go_enter Tryz.func118, Tryz.ntmps118
   go_wp2
   go_ret
   exact ⟨ret_int HP.out.symm, drew0 _⟩
 ·rw [if_neg (by omega)] at hp
  have HP := hide hp
  have f1 : (x == 5) = false := beq_false_of_ne x1
  have f2 : (x == 6) = false := beq_false_of_ne x2
  have f3 : (x == 8) = false := beq_false_of_ne x3
  clear hp x1 x2 x3
  go_enter Tryz.func118, Tryz.ntmps118
  go_wp2
  go_ret
  exact ⟨ret_int HP.out.symm, drew0 _⟩
theorem pv5 (s : Int) (t : List Int) (k : Nat) : We.pv 5 s t (k + 1) = if t.getD k 0 = 6 /\ (We.lf t k = 4 \/ We.rt (t.drop k) = 4) then 4 else t.getD k 0 := rfl
theorem rone5 {s : Int} {c : List Int} {w : World} {ao : Option Addr} {n cap : Nat} {a1 : Option Addr} {c1 i : Nat} (h : On 5 s c w ao n cap a1 c1 i) :
  Calls Tryz.prog 118 #[.slice ao n cap, .slice a1 i c1, .int .i64 s, .int .i64 5, .int .i64 (i : Int)] w fun e w' => e = .returned (.int .i64 (We.pv 5 s c (i + 1))) /\ ∃ k, w' = w.drewN k := by
 have hlt := h.lt
 have hle := h.le
 have HL := hide (redge_left ao n cap i c w h.row hle hlt)
 have HR := hide (redge_right ao n cap i c w h.row hle hlt)
 obtain ⟨b, off, rfl, hc⟩ := h.cell
 have ci := hc i hlt
 have hin : (i : Int) < (n : Int) := by omega
 have hp := pv5 s c i
 obtain ⟨R, hR⟩ : ∃ R, We.pv 5 s c (i + 1) = R := ⟨_, rfl⟩
 rw [hR] at hp ⊢
 have hlf : We.lf c (i + 1) = if c.getD i 0 = 6 then We.lf c i else c.getD i 0 := rfl
 rw [hlf] at HL
 clear hc h hR hlf
 generalize We.lf c i = A at *
 generalize We.rt (c.drop i) = B at *
 generalize c.getD i 0 = x at *
 by_cases h6 : x = 6
 ·rw [if_pos h6] at HL
  by_cases hA : A = 4
  ·rw [if_pos ⟨h6, .inl hA⟩] at hp
   have HP := hide hp
   clear hp HR
   subst h6 hA
   go_enter Tryz.func118, Tryz.ntmps118
   go_wp2_with fail
   refine HL.out.mono ?_
   rintro e w' ⟨rfl, rfl⟩
   go_wp2
   go_ret
   exact ⟨ret_int HP.out.symm, drew0 _⟩
  ·have eA : (A == 4) = false := beq_false_of_ne hA
   by_cases hB : B = 4
   ·rw [if_pos ⟨h6, .inr hB⟩] at hp
    have HP := hide hp
    clear hp hA
    subst h6 hB
    go_enter Tryz.func118, Tryz.ntmps118
    go_wp2_with fail
    refine HL.out.mono ?_
    rintro e w' ⟨rfl, rfl⟩
    go_wp2_with fail
    refine HR.out.mono ?_
    rintro e w' ⟨rfl, rfl⟩
    go_wp2
    go_ret
    exact ⟨ret_int HP.out.symm, drew0 _⟩
   ·rw [if_neg (fun h => h.2.elim hA hB)] at hp
    have HP := hide hp
    have eB : (B == 4) = false := beq_false_of_ne hB
    clear hp hA hB
    subst h6
    go_enter Tryz.func118, Tryz.ntmps118
    go_wp2_with fail
    refine HL.out.mono ?_
    rintro e w' ⟨rfl, rfl⟩
    go_wp2_with fail
    refine HR.out.mono ?_
    rintro e w' ⟨rfl, rfl⟩
    go_wp2
    go_ret
    exact ⟨ret_int HP.out.symm, drew0 _⟩
 ·rw [if_neg (fun h => h6 h.1)] at hp
  have HP := hide hp
  have e6 : (x == 6) = false := beq_false_of_ne h6
  clear hp h6 HL HR
  go_enter Tryz.func118, Tryz.ntmps118
  go_wp2
  go_ret
  exact ⟨ret_int HP.out.symm, drew0 _⟩
theorem rone4 {s : Int} {c : List Int} {w : World} {ao : Option Addr} {n cap : Nat} {a1 : Option Addr} {c1 i : Nat} (h : On 4 s c w ao n cap a1 c1 i) :
  Calls Tryz.prog 118 #[.slice ao n cap, .slice a1 i c1, .int .i64 s, .int .i64 4, .int .i64 (i : Int)] w fun e w' => e = .returned (.int .i64 (We.pv 4 s c (i + 1))) /\ ∃ k, w' = w.drewN k := by
 have hlt := h.lt
 have hle := h.le
 have hcl := h.row.len
 obtain ⟨b, off, rfl, hc⟩ := h.cell
 have ci := hc i hlt
 have hin : (i : Int) < (n : Int) := by omega
 cases i with
 | zero =>
  have hp := We.four_first (t := c) h.side
  obtain ⟨R, hR⟩ : ∃ R, We.pv 4 s c (0 + 1) = R := ⟨_, rfl⟩
  have hR' : We.pv 4 s c 1 = R := hR
  rw [hR'] at hp
  rw [hR]
  have HP := hide hp
  have ez : ((0 : Nat) : Int) = 0 := rfl
  rw [ez] at hin ⊢
  rw [Nat.add_zero] at ci
  clear hp h ez hR hR' hc
  generalize c.getD 0 0 = x at *
  go_enter Tryz.func118, Tryz.ntmps118
  go_wp2
  go_quiet (fail)
  go_wp2
  go_ret
  exact ⟨ret_int HP.out.symm, _, by first | rfl | exact World.drewN_drewN _ _ _⟩
 | succ m =>
  obtain ⟨b1, o1, rfl, cp⟩ := h.prev
  have e1 : ((m + 1 : Nat) : Int) = (m : Int) + 1 := by omega
  have hm1 : (m : Int) < (m : Int) + 1 := by omega
  have hm0 : (0 : Int) < (m : Int) + 1 := by omega
  have d1 : decide ((0 : Int) < (m : Int) + 1) = true := decide_eq_true (by omega)
  rw [e1] at hin ⊢
  by_cases hlt2 : m + 1 + 1 < n
  ·have cn := hc (m + 1 + 1) hlt2
   have hin2 : (m : Int) + 1 + 1 < (n : Int) := by omega
   have d2 : decide ((m : Int) + 1 + 1 < (n : Int)) = true := decide_eq_true (by omega)
   have hp := pv4 s c (m + 1)
   obtain ⟨R, hR⟩ : ∃ R, We.pv 4 s c (m + 1 + 1) = R := ⟨_, rfl⟩
   rw [hR] at hp ⊢
   clear h e1 hR hc hcl
   generalize We.pv 4 s c (m + 1) = p at *
   generalize c.getD (m + 1) 0 = x at *
   generalize c.getD (m + 1 + 1) 0 = y at *
   by_cases hpy : p = y
   ·have hE : (p == y) = true := beq_iff_eq.2 hpy
    have hcs : (x = 5 /\ y = 4 /\ R = y) \/ (x = 5 /\ ¬ y = 4 /\ R = x) \/ (x = 8 /\ y = 4 /\ R = y) \/ (x = 8 /\ ¬ y = 4 /\ y = 7 /\ R = y) \/ (x = 8 /\ ¬ y = 4 /\ ¬ y = 7 /\ R = x) \/ (¬ x = 5 /\ ¬ x = 8 /\ R = x) := by
     by_cases hq : p = y /\ ((x = 5 /\ y = 4) \/ (x = 8 /\ (y = 4 \/ y = 7)))
     ·rw [if_pos hq] at hp; omega
     ·rw [if_neg hq] at hp; omega
    clear hp hpy
    rcases hcs with ⟨rfl, rfl, hr⟩ | ⟨rfl, y4, hr⟩ | ⟨rfl, rfl, hr⟩ | ⟨rfl, y4, rfl, hr⟩ | ⟨rfl, y4, y7, hr⟩ | ⟨x5, x8, hr⟩
    ·have HP := hide hr
     clear hr
     go_enter Tryz.func118, Tryz.ntmps118
     go_wp2
     go_quiet (fail)
     go_wp2
     go_ret
     exact ⟨ret_int HP.out.symm, _, by first | rfl | exact World.drewN_drewN _ _ _⟩
    ·have HP := hide hr
     have e4 : (y == 4) = false := beq_false_of_ne y4
     clear hr y4
     go_enter Tryz.func118, Tryz.ntmps118
     go_wp2
     go_quiet (fail)
     go_wp2
     go_ret
     exact ⟨ret_int HP.out.symm, _, by first | rfl | exact World.drewN_drewN _ _ _⟩
    ·have HP := hide hr
     clear hr
     go_enter Tryz.func118, Tryz.ntmps118
     go_wp2
     go_quiet (fail)
     go_wp2
     go_ret
     exact ⟨ret_int HP.out.symm, _, by first | rfl | exact World.drewN_drewN _ _ _⟩
    ·have HP := hide hr
     clear hr y4
     go_enter Tryz.func118, Tryz.ntmps118
     go_wp2
     go_quiet (fail)
     go_wp2
     go_ret
     exact ⟨ret_int HP.out.symm, _, by first | rfl | exact World.drewN_drewN _ _ _⟩
    ·have HP := hide hr
     have e4 : (y == 4) = false := beq_false_of_ne y4
     have e7 : (y == 7) = false := beq_false_of_ne y7
     clear hr y4 y7
     go_enter Tryz.func118, Tryz.ntmps118
     go_wp2
     go_quiet (fail)
     go_wp2
     go_ret
     exact ⟨ret_int HP.out.symm, _, by first | rfl | exact World.drewN_drewN _ _ _⟩
    ·have HP := hide hr
     have e5 : (x == 5) = false := beq_false_of_ne x5
     have e8 : (x == 8) = false := beq_false_of_ne x8
     clear hr x5 x8
     go_enter Tryz.func118, Tryz.ntmps118
     go_wp2
     go_quiet (fail)
     go_wp2
     go_ret
     exact ⟨ret_int HP.out.symm, _, by first | rfl | exact World.drewN_drewN _ _ _⟩
   ·rw [if_neg (fun h => hpy h.1)] at hp
    have HP := hide hp
    have hE : (p == y) = false := beq_false_of_ne hpy
    clear hp hpy
    go_enter Tryz.func118, Tryz.ntmps118
    go_wp2
    go_quiet (fail)
    go_wp2
    go_ret
    exact ⟨ret_int HP.out.symm, _, by first | rfl | exact World.drewN_drewN _ _ _⟩
  ·have hp := We.four_last (s := s) (t := c) (i := m + 1) (by omega)
   have d2 : decide ((m : Int) + 1 + 1 < (n : Int)) = false := decide_eq_false (by omega)
   have hin2 : ¬ (m : Int) + 1 + 1 < (n : Int) := by omega
   obtain ⟨R, hR⟩ : ∃ R, We.pv 4 s c (m + 1 + 1) = R := ⟨_, rfl⟩
   rw [hR] at hp ⊢
   have HP := hide hp
   clear h e1 hR hp hc hcl
   generalize c.getD (m + 1) 0 = x at *
   go_enter Tryz.func118, Tryz.ntmps118
   go_wp2
   go_quiet (fail)
   go_wp2
   go_ret
   exact ⟨ret_int HP.out.symm, _, by first | rfl | exact World.drewN_drewN _ _ _⟩
theorem rwone_any {r : Nat} {s : Int} {c : List Int} {w : World} {ao : Option Addr} {n cap : Nat} {a1 : Option Addr} {c1 i : Nat} (h1 : 1 <= r) (h7 : r <= 7) (h : On r s c w ao n cap a1 c1 i) :
  Calls Tryz.prog 118 #[.slice ao n cap, .slice a1 i c1, .int .i64 s, .int .i64 (r : Int), .int .i64 (i : Int)] w fun e w' => e = .returned (.int .i64 (We.pv r s c (i + 1))) /\ ∃ k, w' = w.drewN k := by
 have hr : r = 1 \/ r = 2 \/ r = 3 \/ r = 4 \/ r = 5 \/ r = 6 \/ r = 7 := by omega
 rcases hr with rfl | rfl | rfl | rfl | rfl | rfl | rfl
 ·exact rone1 h
 ·exact rone2 h
 ·exact rone3 h
 ·exact rone4 h
 ·exact rone5 h
 ·exact rone6 h
 ·exact rone7 h
end Go.Proofs.YtfcoebbblfcdoaaGreatDoor

/- The document's answer (colophonref09): Rule, Step, Resolve; Step and Resolve of both, each in one. -/
namespace Go.Proofs.YtfcoebbblfcdoaaGreatDoor
open Go.RowKit
set_option linter.unusedVariables false
set_option maxHeartbeats 1000000
set_option maxRecDepth 100000
def RP (r : Nat) (s : Int) (c : List Int) (k : Nat) : List Int := (List.range k).map fun j => We.pv r s c (j + 1)
theorem RP_succ (r : Nat) (s : Int) (c : List Int) (k : Nat) : RP r s c (k + 1) = RP r s c k ++ [We.pv r s c (k + 1)] := by simp [RP, List.range_succ]
theorem RP_at (r : Nat) (s : Int) (c : List Int) (k : Nat) {j : Nat} (hj : j < k) : (RP r s c k).getD j 0 = We.pv r s c (j + 1) := We.getD_map k _ j hj
structure RI9 (w : World) (zs : List Int) (k : Nat) (sv : Value) (wr : World) : Prop where
 own : wr.ownsRow w.heap.size 3 1 sv k (zs.map (Value.int .i64))
 bel : Below w.heap.size w wr
theorem RI9.drewN {w : World} {zs : List Int} {k : Nat} {sv : Value} {wr w1 : World} (h : RI9 w zs k sv wr) (hd : ∃ q, w1 = wr.drewN q) : RI9 w zs k sv w1 := by
 obtain ⟨q, rfl⟩ := hd
 have hb := h.bel
 exact ⟨⟨h.own.1, h.own.2⟩, ⟨hb.os, hb.tape, hb.output, hb.size, hb.block⟩⟩
theorem rwrule_any (r : Nat) (h1 : 1 <= r) (h7 : r <= 7) (ao : Option Addr) (n cap : Nat) (s : Int) (c : List Int) (w : World) (h : Row .i64 w ao n cap c) (hn : n <= 400) (hs : We.Side s) :
  Calls Tryz.prog 93 #[.slice ao n cap, .int .i64 s, .int .i64 (r : Int)] w fun e w' => ∃ a1 c1, e = .returned (.slice a1 n c1) /\ New w a1 n c1 (We.R r s c) w' := by
 obtain ⟨ii, hii, hy0, hy1, hy2⟩ := info_parts infoInt
 have HII : Hid (Tryz.prog.info? 3 = some ii) := hii
 have HY0 := hide hy0
 have HY1 := hide hy1
 have HY2 := hide hy2
 have HL := hide h.len
 have HO := hide (fun (w' : World) (hk : KO w w') (a1 : Option Addr) (c1 i : Nat) (hi : i < n) (ho : Row .i64 w' a1 i c1 (RP r s c i)) => rwone_any (w := w') (ao := ao) (n := n) (cap := cap) (c := c) (s := s) (a1 := a1) (c1 := c1) (i := i) h1 h7 ⟨h.below hk, ⟨_, ho, fun j hj => RP_at r s c i hj⟩, hi, hn, hs⟩)
 clear h hii hy0 hy1 hy2 hs
 go_enter Tryz.func93, Tryz.ntmps93
 go_wp2
 go_loopw [7, 8] (fun v7 v8 wr => ∃ k : Nat, k <= n /\ v8 = .int .i64 (k : Int) /\ Hid (RI9 w (RP r s c k) k v7 wr)) (fun _ v8 _ => n - (intOf v8).toNat)
 case atStart => exact ⟨0, Nat.zero_le _, rfl, ⟨World.ownsRow_nil _ _ _ _, Below.refl _ _⟩⟩
 case round =>
  obtain ⟨k, hk, rfl, hm⟩ := hrel
  by_cases hlt : k < n
  ·have hin : (k : Int) < (n : Int) := by omega
   obtain ⟨a7, c7, rfl, hr7⟩ := row_of_owns hm.out.own
   have HC := hide (HO.out wr hm.out.bel a7 c7 k hlt hr7)
   clear hr7
   go_wp2_with fail
   refine HC.out.mono ?_
   rintro e w1 ⟨rfl, hd⟩
   have HM1 := hide (hm.out.drewN hd)
   have HOW := hide HM1.out.own
   have HB := hide HM1.out.bel
   have hsz := HM1.out.bel.size
   have HSN := hide (RP_succ r s c k)
   clear hd hm HC HM1
   generalize We.pv r s c (k + 1) = x at *
   go_wp2_with (at_builtin; refine wpList_append_row _ rfl (.tmp 15) (.tmp 22) 30 rfl w.heap.size 3 ii (.int .i64 0) 8 Tryz.underlying30 HII.out HY0.out HY1.out HY2.out rfl _ k _ rfl (HOW.out.alloc _) .i64 _ 1 1 [x] rfl (row_one _ w1.heap.size rfl x) (by omega) (by omega) (by simp; omega) ?_; intro v2 w2 hown2 hb2)
   have HM := hide (show RI9 w (RP r s c (k + 1)) (k + 1) v2 w2 from by
    refine ⟨?_, Below.trans (Below.alloc HB.out hsz _) hb2⟩
    rw [HSN.out, List.map_append]
    exact hown2)
   clear hown2 hb2
   go_wp2
   go_roundw
   case rel => exact ⟨k + 1, by omega, by go_num, HM⟩
   case measure => simp [intOf]; omega
  ·obtain rfl : k = n := by omega
   have hne : ¬ ((k : Int) < (k : Int)) := by omega
   have HE := hide (show RP r s c k = We.R r s c from by unfold RP We.R; rw [HL.out])
   obtain ⟨a7, c7, rfl, hr7⟩ := row_of_owns hm.out.own
   rw [HE.out] at hr7
   have HN := hide (show New w a7 k c7 (We.R r s c) wr from ⟨hr7, hm.out.bel⟩)
   clear hr7 hm hlt
   go_wp2
   go_ret
   exact ⟨_, _, rfl, HN.out⟩
theorem new_nil {w w' : World} (hk : KO w w') : New w none 0 0 [] w' := ⟨row_nil .i64 w', hk⟩
def B9 (s : Int) (c L : List Int) (E : Int) : Prop :=
 (¬ We.Side s /\ L = [] /\ E = 2) \/ (We.Side s /\ ¬ We.Ok c /\ L = [] /\ E = 50) \/ (We.Side s /\ We.Ok c /\ L = We.RR s c 7 /\ E = 0)
theorem rwresolve_bad (ao : Option Addr) (n cap : Nat) (s : Int) (w : World) (E : Int) (h0 : ¬ E = 0) (hW : Calls Tryz.prog 92 #[.slice ao n cap, .int .i64 s] w fun e w' => e = .returned (.int .i64 E) /\ w = w') :
  Calls Tryz.prog 60 #[.slice ao n cap, .int .i64 s] w fun e w' => e = .returned (.tuple #[.slice none 0 0, .int .i64 E]) /\ w = w' := by
 have HW := hide hW
 have e0 : (E != 0) = true := bne_iff_ne.2 h0
 clear hW h0
 go_enter Tryz.func60, Tryz.ntmps60
 go_wp2_with fail
 refine HW.out.mono ?_
 rintro e w' ⟨rfl, rfl⟩
 go_wp2
 go_ret2
 exact ⟨rfl, rfl⟩
theorem rwresolve_ok (ao : Option Addr) (n cap : Nat) (s : Int) (c : List Int) (w : World) (h : Row .i64 w ao n cap c) (hn : n <= 400) (hs : We.Side s) (ho : We.Ok c) :
  Calls Tryz.prog 60 #[.slice ao n cap, .int .i64 s] w fun e w' => ∃ a1 c1, e = .returned (.tuple #[.slice a1 n c1, .int .i64 0]) /\ New w a1 n c1 (We.RR s c 7) w' := by
 have HW := hide (rwrong_any ao n cap s c w h hn hs 0 (.inl ⟨ho, rfl⟩))
 have HR := hide (fun (k : Nat) (hk : k < 7) (a1 : Option Addr) (c1 : Nat) (w' : World) (hr : Row .i64 w' a1 n c1 (We.RR s c k)) => (show Calls Tryz.prog 93 #[.slice a1 n c1, .int .i64 s, .int .i64 ((k : Int) + 1)] w' _ from rwrule_any (k + 1) (by omega) (by omega) a1 n c1 s (We.RR s c k) w' hr hn hs))
 have H := hide h
 clear hs ho h
 go_enter Tryz.func60, Tryz.ntmps60
 go_wp2_with fail
 refine HW.out.mono ?_
 rintro e w' ⟨rfl, rfl⟩
 clear HW
 go_wp2
 go_loopw [0, 7] (fun v0 v7 wr => ∃ k : Nat, k <= 7 /\ v7 = .int .i64 ((k : Int) + 1) /\ ∃ a1 c1, v0 = .slice a1 n c1 /\ Hid (New w a1 n c1 (We.RR s c k) wr)) (fun _ v7 _ => 8 - (intOf v7).toNat)
 case atStart => exact ⟨0, by omega, rfl, ao, cap, rfl, ⟨H.out, KO.refl _⟩⟩
 case round =>
  obtain ⟨k, hk, rfl, a1, c1, rfl, hN⟩ := hrel
  by_cases hlt : k < 7
  ·have hle : (k : Int) + 1 <= 7 := by omega
   have HC := hide (HR.out k hlt a1 c1 wr hN.out.row)
   rw [<- We.RR_succ] at HC
   go_wp2_with fail
   refine HC.out.mono ?_
   rintro e w3 ⟨a3, c3, rfl, hN3⟩
   have HN3 := hide (show New w a3 n c3 (We.RR s c (k + 1)) w3 from ⟨hN3.row, KO.on hN.out.bel hN3.bel⟩)
   clear HC hN hN3
   go_wp2
   go_roundw
   case rel => exact ⟨k + 1, by omega, by go_num, _, _, rfl, HN3⟩
   case measure => simp [intOf]; omega
  ·obtain rfl : k = 7 := by omega
   clear hlt hk
   go_wp2
   go_ret2
   exact ⟨_, _, rfl, hN.out⟩
theorem rwresolve_any (ao : Option Addr) (n cap : Nat) (s : Int) (c L : List Int) (E : Int) (w : World) (h : Row .i64 w ao n cap c) (hn : n <= 400) (hA : B9 s c L E) :
  Calls Tryz.prog 60 #[.slice ao n cap, .int .i64 s] w fun e w' => ∃ a1 c1, e = .returned (.tuple #[.slice a1 L.length c1, .int .i64 E]) /\ New w a1 L.length c1 L w' := by
 rcases hA with ⟨hs, rfl, rfl⟩ | ⟨hs, ho, rfl, rfl⟩ | ⟨hs, ho, rfl, rfl⟩
 ·exact (rwresolve_bad ao n cap s w 2 (by omega) (rwrong_side ao n cap s w hs)).mono fun e w' ⟨he, hk⟩ => ⟨none, 0, he, new_nil (by rw [<- hk]; exact KO.refl _)⟩
 ·exact (rwresolve_bad ao n cap s w 50 (by omega) (rwrong_any ao n cap s c w h hn hs 50 (.inr ⟨ho, rfl⟩))).mono fun e w' ⟨he, hk⟩ => ⟨none, 0, he, new_nil (by rw [<- hk]; exact KO.refl _)⟩
 ·refine (rwresolve_ok ao n cap s c w h hn hs ho).mono fun e w' ⟨a1, c1, he, hN⟩ => ?_
  rw [We.RR_len, h.len]
  exact ⟨_, _, he, hN⟩
end Go.Proofs.YtfcoebbblfcdoaaGreatDoor
