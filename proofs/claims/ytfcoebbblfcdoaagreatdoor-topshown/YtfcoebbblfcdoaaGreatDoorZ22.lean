import Derived.Test.YtfcoebbblfcdoaaGreatDoorZ21
import Derived.Laws.CopyOwn
/- Rules 1, 2, 3, 6, 7: marks, numbers, arabicNumbers, arabicLetters, leftovers, latinNumbers. -/
namespace Go.Proofs.YtfcoebbblfcdoaaGreatDoor
open Go.RowKit
set_option linter.unusedVariables false
set_option maxHeartbeats 1000000
set_option maxRecDepth 100000
theorem OW.next {base g n cap r : Nat} {s : Int} {zs : List Int} {w0 w : World} {k : Nat} (h : OW base g n cap (We.P r s zs k) w0 w) (hk : k < zs.length) {y : Int} (hy : We.pv r s zs (k + 1) = y) : OW base g n cap (We.P r s zs (k + 1)) w0 (w.setCell ⟨g, k, none⟩ (.int .i64 y)) := by
 have := h.set k y
 rw [<- hy, <- We.P_set hk] at this
 rw [<- hy]; exact this
theorem OW.stay {base g n cap r : Nat} {s : Int} {zs : List Int} {w0 w : World} {k : Nat} (h : OW base g n cap (We.P r s zs k) w0 w) (hy : We.pv r s zs (k + 1) = zs.getD k 0) : OW base g n cap (We.P r s zs (k + 1)) w0 w := by
 rw [We.P_same hy]; exact h
theorem pv1 (s : Int) (t : List Int) (k : Nat) : We.pv 1 s t (k + 1) = if t.getD k 0 = 9 then We.mk (We.pv 1 s t k) else t.getD k 0 := rfl
theorem pv2 (s : Int) (t : List Int) (k : Nat) : We.pv 2 s t (k + 1) = if t.getD k 0 = 4 /\ We.strong t s k = 3 then 7 else t.getD k 0 := rfl
theorem pv3 (s : Int) (t : List Int) (k : Nat) : We.pv 3 s t (k + 1) = if t.getD k 0 = 3 then 2 else t.getD k 0 := rfl
theorem pv6 (s : Int) (t : List Int) (k : Nat) : We.pv 6 s t (k + 1) = if t.getD k 0 = 5 \/ t.getD k 0 = 6 \/ t.getD k 0 = 8 then 14 else t.getD k 0 := rfl
theorem pv7 (s : Int) (t : List Int) (k : Nat) : We.pv 7 s t (k + 1) = if t.getD k 0 = 4 /\ We.strong t s k = 1 then 1 else t.getD k 0 := rfl
theorem strong_succ (s : Int) (t : List Int) (k : Nat) : We.strong t s (k + 1) = if t.getD k 0 = 1 \/ t.getD k 0 = 2 \/ t.getD k 0 = 3 then t.getD k 0 else We.strong t s k := rfl
theorem marks_any (base g n cap : Nat) (s : Int) (zs : List Int) (w0 w : World) (h : OW base g n cap zs w0 w) (hn : n <= 17592186044416) :
  Calls Tryz.prog 170 #[.slice (some ⟨g, 0, none⟩) n cap, .int .i64 s] w fun e w' => e = .returned (.tuple #[]) /\ OW base g n cap (We.R 1 s zs) w0 w' := by
 have HL := hide h.len
 have H0 := hide (show OW base g n cap (We.P 1 s zs 0) w0 w from by rw [We.P_zero]; exact h)
 have HE := hide (show We.P 1 s zs n = We.R 1 s zs from We.P_end (by rw [h.len]; exact Nat.le_refl _))
 clear h
 go_enter Tryz.func170, Tryz.ntmps170
 go_wp2
 go_loopw [4, 10] (fun v4 v wr => ∃ k : Nat, v = .int .i64 (k : Int) /\ k <= n /\ v4 = .int .i64 (We.pv 1 s zs k) /\ Hid (OW base g n cap (We.P 1 s zs k) w0 wr)) (fun _ v _ => n - (intOf v).toNat)
 case atStart => exact ⟨0, rfl, Nat.zero_le _, rfl, H0⟩
 case round =>
  obtain ⟨k, rfl, hk, rfl, hO⟩ := hrel
  by_cases hlt : k < n
  ·have hin : (k : Int) < (n : Int) := by omega
   have hkl : k < zs.length := by rw [HL.out]; exact hlt
   have co := hO.out.cell hlt
   rw [We.P_here hkl (Nat.le_refl _)] at co
   have hfz := hO.out.own.frozenAt k
   have HP := hide (pv1 s zs k)
   have HN := hide (fun (y : Int) => hO.out.next (y := y) hkl)
   have HT := hide hO.out.stay
   have HM := hide (fun w' => markBehind_any (We.pv 1 s zs k) w')
   obtain ⟨A, hA⟩ : ∃ A, We.pv 1 s zs k = A := ⟨_, rfl⟩
   rw [hA] at HP HM ⊢
   obtain ⟨x, hx⟩ : ∃ x, zs.getD k 0 = x := ⟨_, rfl⟩
   rw [hx] at HP HT co
   clear hO hA hx hkl
   by_cases h9 : x = 9
   ·have hp := HP.out
    rw [if_pos h9] at hp
    have HS := hide (HN.out _ hp)
    have HV := hide hp
    clear hp HP HN HT
    generalize We.mk A = y at *
    subst h9
    go_wp2_with (go_at_call 185; refine (HM.out _).mono ?_; rintro e w' ⟨rfl, rfl⟩)
    go_roundw
    case rel => exact ⟨k + 1, by go_num, by omega, by rw [HV.out], HS⟩
    case measure => simp [intOf]; omega
   ·have hp := HP.out
    rw [if_neg h9] at hp
    have HS := hide (HT.out hp)
    have HV := hide hp
    have h9' : (x == 9) = false := beq_false_of_ne h9
    clear hp HP HN HT h9 HM
    go_wp2
    go_roundw
    case rel => exact ⟨k + 1, by go_num, by omega, by rw [HV.out], HS⟩
    case measure => simp [intOf]; omega
  ·obtain rfl : k = n := by omega
   have hne : ¬ ((k : Int) < (k : Int)) := by omega
   rw [HE.out] at hO
   clear hlt
   go_wp2
   go_end0
   exact ⟨rfl, hO.out⟩
theorem arabicLetters_any (base g n cap : Nat) (s : Int) (zs : List Int) (w0 w : World) (h : OW base g n cap zs w0 w) (hn : n <= 17592186044416) :
  Calls Tryz.prog 172 #[.slice (some ⟨g, 0, none⟩) n cap, .int .i64 s] w fun e w' => e = .returned (.tuple #[]) /\ OW base g n cap (We.R 3 s zs) w0 w' := by
 have HL := hide h.len
 have H0 := hide (show OW base g n cap (We.P 3 s zs 0) w0 w from by rw [We.P_zero]; exact h)
 have HE := hide (show We.P 3 s zs n = We.R 3 s zs from We.P_end (by rw [h.len]; exact Nat.le_refl _))
 clear h
 go_enter Tryz.func172, Tryz.ntmps172
 go_wp2
 go_loopw [8] (fun v wr => ∃ k : Nat, v = .int .i64 (k : Int) /\ k <= n /\ Hid (OW base g n cap (We.P 3 s zs k) w0 wr)) (fun v _ => n - (intOf v).toNat)
 case atStart => exact ⟨0, rfl, Nat.zero_le _, H0⟩
 case round =>
  obtain ⟨k, rfl, hk, hO⟩ := hrel
  by_cases hlt : k < n
  ·have hin : (k : Int) < (n : Int) := by omega
   have hkl : k < zs.length := by rw [HL.out]; exact hlt
   have co := hO.out.cell hlt
   rw [We.P_here hkl (Nat.le_refl _)] at co
   have hfz := hO.out.own.frozenAt k
   have HP := hide (pv3 s zs k)
   have HN := hide (fun (y : Int) => hO.out.next (y := y) hkl)
   have HT := hide hO.out.stay
   obtain ⟨x, hx⟩ : ∃ x, zs.getD k 0 = x := ⟨_, rfl⟩
   rw [hx] at HP HT co
   clear hO hx hkl
   by_cases h9 : x = 3
   ·have hp := HP.out
    rw [if_pos h9] at hp
    have HS := hide (HN.out _ hp)
    clear hp HP HN HT
    subst h9
    go_wp2
    go_roundw
    case rel => exact ⟨k + 1, by go_num, by omega, HS⟩
    case measure => simp [intOf]; omega
   ·have hp := HP.out
    rw [if_neg h9] at hp
    have HS := hide (HT.out hp)
    have h9' : (x == 3) = false := beq_false_of_ne h9
    clear hp HP HN HT h9
    go_wp2
    go_roundw
    case rel => exact ⟨k + 1, by go_num, by omega, HS⟩
    case measure => simp [intOf]; omega
  ·obtain rfl : k = n := by omega
   have hne : ¬ ((k : Int) < (k : Int)) := by omega
   rw [HE.out] at hO
   clear hlt
   go_wp2
   go_end0
   exact ⟨rfl, hO.out⟩
theorem leftovers_any (base g n cap : Nat) (s : Int) (zs : List Int) (w0 w : World) (h : OW base g n cap zs w0 w) (hn : n <= 17592186044416) :
  Calls Tryz.prog 175 #[.slice (some ⟨g, 0, none⟩) n cap, .int .i64 s] w fun e w' => e = .returned (.tuple #[]) /\ OW base g n cap (We.R 6 s zs) w0 w' := by
 have HL := hide h.len
 have H0 := hide (show OW base g n cap (We.P 6 s zs 0) w0 w from by rw [We.P_zero]; exact h)
 have HE := hide (show We.P 6 s zs n = We.R 6 s zs from We.P_end (by rw [h.len]; exact Nat.le_refl _))
 clear h
 go_enter Tryz.func175, Tryz.ntmps175
 go_wp2
 go_loopw [8] (fun v wr => ∃ k : Nat, v = .int .i64 (k : Int) /\ k <= n /\ Hid (OW base g n cap (We.P 6 s zs k) w0 wr)) (fun v _ => n - (intOf v).toNat)
 case atStart => exact ⟨0, rfl, Nat.zero_le _, H0⟩
 case round =>
  obtain ⟨k, rfl, hk, hO⟩ := hrel
  by_cases hlt : k < n
  ·have hin : (k : Int) < (n : Int) := by omega
   have hkl : k < zs.length := by rw [HL.out]; exact hlt
   have co := hO.out.cell hlt
   rw [We.P_here hkl (Nat.le_refl _)] at co
   have hfz := hO.out.own.frozenAt k
   have HP := hide (pv6 s zs k)
   have HN := hide (fun (y : Int) => hO.out.next (y := y) hkl)
   have HT := hide hO.out.stay
   obtain ⟨x, hx⟩ : ∃ x, zs.getD k 0 = x := ⟨_, rfl⟩
   rw [hx] at HP HT co
   clear hO hx hkl
   have hc : (x = 5 \/ (¬ x = 5 /\ x = 6) \/ (¬ x = 5 /\ ¬ x = 6 /\ x = 8)) \/ (¬ x = 5 /\ ¬ x = 6 /\ ¬ x = 8) := by omega
   rcases hc with h9 | ⟨h5, h6, h8⟩
   ·have hp := HP.out
    rw [if_pos (by omega)] at hp
    have HS := hide (HN.out _ hp)
    clear hp HP HN HT
    rcases h9 with rfl | ⟨h5, rfl⟩ | ⟨h5, h6, rfl⟩
    all_goals
     go_wp2
     go_roundw
     case rel => exact ⟨k + 1, by go_num, by omega, HS⟩
     case measure => simp [intOf]; omega
   ·have hp := HP.out
    rw [if_neg (by omega)] at hp
    have HS := hide (HT.out hp)
    have e5 : (x == 5) = false := beq_false_of_ne h5
    have e6 : (x == 6) = false := beq_false_of_ne h6
    have e8 : (x == 8) = false := beq_false_of_ne h8
    clear hp HP HN HT h5 h6 h8
    go_wp2
    go_roundw
    case rel => exact ⟨k + 1, by go_num, by omega, HS⟩
    case measure => simp [intOf]; omega
  ·obtain rfl : k = n := by omega
   have hne : ¬ ((k : Int) < (k : Int)) := by omega
   rw [HE.out] at hO
   clear hlt
   go_wp2
   go_end0
   exact ⟨rfl, hO.out⟩
def Num (r : Nat) (st ot : Int) : Prop := ∀ s t k, We.pv r s t (k + 1) = if t.getD k 0 = 4 /\ We.strong t s k = st then ot else t.getD k 0
theorem numbers_any (r : Nat) (st ot : Int) (hr : Num r st ot) (base g n cap : Nat) (s : Int) (zs : List Int) (w0 w : World) (h : OW base g n cap zs w0 w) (hn : n <= 17592186044416) :
  Calls Tryz.prog 186 #[.slice (some ⟨g, 0, none⟩) n cap, .int .i64 s, .int .i64 st, .int .i64 ot] w fun e w' => e = .returned (.tuple #[]) /\ OW base g n cap (We.R r s zs) w0 w' := by
 have HL := hide h.len
 have H0 := hide (show OW base g n cap (We.P r s zs 0) w0 w from by rw [We.P_zero]; exact h)
 have HE := hide (show We.P r s zs n = We.R r s zs from We.P_end (by rw [h.len]; exact Nat.le_refl _))
 have HR := hide hr
 clear h hr
 go_enter Tryz.func186, Tryz.ntmps186
 go_wp2
 go_loopw [8, 14] (fun v8 v wr => ∃ k : Nat, v = .int .i64 (k : Int) /\ k <= n /\ v8 = .int .i64 (We.strong zs s k) /\ Hid (OW base g n cap (We.P r s zs k) w0 wr)) (fun _ v _ => n - (intOf v).toNat)
 case atStart => exact ⟨0, rfl, Nat.zero_le _, rfl, H0⟩
 case round =>
  obtain ⟨k, rfl, hk, rfl, hO⟩ := hrel
  by_cases hlt : k < n
  ·have hin : (k : Int) < (n : Int) := by omega
   have hkl : k < zs.length := by rw [HL.out]; exact hlt
   have co := hO.out.cell hlt
   rw [We.P_here hkl (Nat.le_refl _)] at co
   have hfz := hO.out.own.frozenAt k
   have HP := hide (HR.out s zs k)
   have HG := hide (strong_succ s zs k)
   have HN := hide (fun (y : Int) => hO.out.next (y := y) hkl)
   have HT := hide hO.out.stay
   obtain ⟨A, hA⟩ : ∃ A, We.strong zs s k = A := ⟨_, rfl⟩
   rw [hA] at HP HG ⊢
   obtain ⟨x, hx⟩ : ∃ x, zs.getD k 0 = x := ⟨_, rfl⟩
   rw [hx] at HP HT HG co
   clear hO hA hx hkl
   have hc : (x = 1 \/ (¬ x = 1 /\ x = 2) \/ (¬ x = 1 /\ ¬ x = 2 /\ x = 3)) \/ (¬ x = 1 /\ ¬ x = 2 /\ ¬ x = 3) := by omega
   rcases hc with h9 | ⟨h1, h2, h3⟩
   ·have hp := HP.out
    rw [if_neg (by omega)] at hp
    have hg := HG.out
    rw [if_pos (by omega)] at hg
    have HS := hide (HT.out hp)
    have HV := hide hg
    clear hp hg HP HN HT HG
    rcases h9 with rfl | ⟨h1, rfl⟩ | ⟨h1, h2, rfl⟩
    all_goals
     go_wp2
     go_roundw
     case rel => exact ⟨k + 1, by go_num, by omega, by rw [HV.out], HS⟩
     case measure => simp [intOf]; omega
   ·have hg := HG.out
    rw [if_neg (by omega)] at hg
    have HV := hide hg
    have e1 : (x == 1) = false := beq_false_of_ne h1
    have e2 : (x == 2) = false := beq_false_of_ne h2
    have e3 : (x == 3) = false := beq_false_of_ne h3
    clear hg HG h1 h2 h3
    by_cases h4 : x = 4
    ·by_cases hs : A = st
     ·have hp := HP.out
      rw [if_pos ⟨h4, hs⟩] at hp
      have HS := hide (HN.out _ hp)
      clear hp HP HN HT e1 e2 e3
      subst h4 hs
      go_wp2
      go_roundw
      case rel => exact ⟨k + 1, by go_num, by omega, by rw [HV.out], HS⟩
      case measure => simp [intOf]; omega
     ·have hp := HP.out
      rw [if_neg (fun h => hs h.2)] at hp
      have HS := hide (HT.out hp)
      have es : (A == st) = false := beq_false_of_ne hs
      clear hp HP HN HT e1 e2 e3 hs
      subst h4
      go_wp2
      go_roundw
      case rel => exact ⟨k + 1, by go_num, by omega, by rw [HV.out], HS⟩
      case measure => simp [intOf]; omega
    ·have hp := HP.out
     rw [if_neg (fun h => h4 h.1)] at hp
     have HS := hide (HT.out hp)
     have e4 : (x == 4) = false := beq_false_of_ne h4
     clear hp HP HN HT h4
     go_wp2
     go_roundw
     case rel => exact ⟨k + 1, by go_num, by omega, by rw [HV.out], HS⟩
     case measure => simp [intOf]; omega
  ·obtain rfl : k = n := by omega
   have hne : ¬ ((k : Int) < (k : Int)) := by omega
   rw [HE.out] at hO
   clear hlt
   go_wp2
   go_end0
   exact ⟨rfl, hO.out⟩
theorem arabicNumbers_any (base g n cap : Nat) (s : Int) (zs : List Int) (w0 w : World) (h : OW base g n cap zs w0 w) (hn : n <= 17592186044416) :
  Calls Tryz.prog 171 #[.slice (some ⟨g, 0, none⟩) n cap, .int .i64 s] w fun e w' => e = .returned (.tuple #[]) /\ OW base g n cap (We.R 2 s zs) w0 w' := by
 have HN := hide (numbers_any 2 3 7 (fun _ _ _ => rfl) base g n cap s zs w0 w h hn)
 clear h
 go_enter Tryz.func171, Tryz.ntmps171
 go_wp2_with (go_at_call 186; refine HN.out.mono ?_; rintro e w' ⟨rfl, hO⟩)
 go_end0
 exact ⟨rfl, hO⟩
theorem latinNumbers_any (base g n cap : Nat) (s : Int) (zs : List Int) (w0 w : World) (h : OW base g n cap zs w0 w) (hn : n <= 17592186044416) :
  Calls Tryz.prog 176 #[.slice (some ⟨g, 0, none⟩) n cap, .int .i64 s] w fun e w' => e = .returned (.tuple #[]) /\ OW base g n cap (We.R 7 s zs) w0 w' := by
 have HN := hide (numbers_any 7 1 1 (fun _ _ _ => rfl) base g n cap s zs w0 w h hn)
 clear h
 go_enter Tryz.func176, Tryz.ntmps176
 go_wp2_with (go_at_call 186; refine HN.out.mono ?_; rintro e w' ⟨rfl, hO⟩)
 go_end0
 exact ⟨rfl, hO⟩
end Go.Proofs.YtfcoebbblfcdoaaGreatDoor

/- Rules 4 and 5: separators, terminators. -/
namespace Go.Proofs.YtfcoebbblfcdoaaGreatDoor
open Go.RowKit
set_option linter.unusedVariables false
set_option maxHeartbeats 1000000
set_option maxRecDepth 100000
theorem pv4 (s : Int) (t : List Int) (k : Nat) : We.pv 4 s t (k + 1) = if We.pv 4 s t k = t.getD (k + 1) 0 /\ ((t.getD k 0 = 5 /\ t.getD (k + 1) 0 = 4) \/ (t.getD k 0 = 8 /\ (t.getD (k + 1) 0 = 4 \/ t.getD (k + 1) 0 = 7))) then t.getD (k + 1) 0 else t.getD k 0 := rfl
theorem jn_yes {x p y : Int} (h : p = y) (hj : jn x p = true) : p = y /\ ((x = 5 /\ y = 4) \/ (x = 8 /\ (y = 4 \/ y = 7))) := by
 subst h
 simp only [jn, Bool.or_eq_true, Bool.and_eq_true, beq_iff_eq] at hj
 omega
theorem jn_no {x p y : Int} (h : ¬ (p = y /\ jn x p = true)) : ¬ (p = y /\ ((x = 5 /\ y = 4) \/ (x = 8 /\ (y = 4 \/ y = 7)))) := by
 rintro ⟨rfl, h2⟩
 refine h ⟨rfl, ?_⟩
 simp only [jn, Bool.or_eq_true, Bool.and_eq_true, beq_iff_eq]
 omega
theorem separators_any (base g n cap : Nat) (s : Int) (hs : We.Side s) (zs : List Int) (w0 w : World) (h : OW base g n cap zs w0 w) (hn : n <= 17592186044416) :
  Calls Tryz.prog 173 #[.slice (some ⟨g, 0, none⟩) n cap, .int .i64 s] w fun e w' => e = .returned (.tuple #[]) /\ OW base g n cap (We.R 4 s zs) w0 w' := by
 have HL := hide h.len
 have H0 := hide (show OW base g n cap (We.P 4 s zs 1) w0 w from by rw [We.P_same (We.four_first hs), We.P_zero]; exact h)
 have HE := hide (fun (k : Nat) (hk : n <= k + 1) => (show We.P 4 s zs k = We.R 4 s zs from by
  have hl := HL.out
  rw [<- We.P_end (show zs.length <= k + 1 by omega)]
  exact (We.P_same (We.four_last (by omega))).symm))
 clear h
 go_enter Tryz.func173, Tryz.ntmps173
 go_wp2
 go_loopw [4] (fun v wr => ∃ k : Nat, v = .int .i64 ((k : Int) + 1) /\ (k = 0 \/ k + 2 <= n) /\ Hid (OW base g n cap (We.P 4 s zs (k + 1)) w0 wr)) (fun v _ => n - (intOf v).toNat)
 case atStart => exact ⟨0, rfl, .inl rfl, H0⟩
 case round =>
  obtain ⟨k, rfl, hk, hO⟩ := hrel
  by_cases hlt : k + 2 < n
  ·have hin : (k : Int) + 1 < (n : Int) - 1 := by omega
   have hl := HL.out
   have hb1 : (k : Int) < (n : Int) := by omega
   have hb2 : ((k : Int) + 1) < (n : Int) := by omega
   have hb3 : ((k : Int) + 1 + 1) < (n : Int) := by omega
   have c1 := hO.out.cell (show k < n by omega)
   have c2 := hO.out.cell (show k + 1 < n by omega)
   have c3 := hO.out.cell (show k + 1 + 1 < n by omega)
   have hfz := hO.out.own.frozenAt (k + 1)
   rw [We.P_last (by omega)] at c1
   rw [We.P_here (by omega) (by omega)] at c2 c3
   have HP := hide (pv4 s zs (k + 1))
   have HN := hide (fun (nq : Nat) (y : Int) => (hO.out.drewN nq).next (y := y) (show k + 1 < zs.length by omega))
   have HT := hide (fun (nq : Nat) => (hO.out.drewN nq).stay)
   obtain ⟨p, hp⟩ : ∃ p, We.pv 4 s zs (k + 1) = p := ⟨_, rfl⟩
   rw [hp] at HP c1
   obtain ⟨x, hx⟩ : ∃ x, zs.getD (k + 1) 0 = x := ⟨_, rfl⟩
   rw [hx] at HP HT c2
   obtain ⟨y, hy⟩ : ∃ y, zs.getD (k + 1 + 1) 0 = y := ⟨_, rfl⟩
   rw [hy] at HP c3
   have HJ := hide (fun w' => joins_any x p w')
   clear hO hp hx hy hl
   by_cases hj : jn x p = true
   ·rw [hj] at HJ
    by_cases hpy : p = y
    ·have hP := HP.out
     rw [if_pos (jn_yes hpy hj), <- hpy] at hP
     have HS := hide (fun nq => HN.out nq _ hP)
     have hE : (p == y) = true := beq_iff_eq.2 hpy
     clear hP HP HN HT hj hpy
     go_wp2_with fail
     go_quiet (first | (go_at_call 187; refine Calls.quiet_of_same ((HJ.out _).mono fun _ _ ⟨he, hm⟩ => ⟨he, hm.symm⟩)))
     go_wp2
     go_roundw
     case rel => exact ⟨k + 1, by go_num, by omega, hide (HS.out _)⟩
     case measure => simp [intOf]; omega
    ·have hP := HP.out
     rw [if_neg (jn_no (fun h => hpy h.1))] at hP
     have HS := hide (fun nq => HT.out nq hP)
     have hE : (p == y) = false := beq_false_of_ne hpy
     clear hP HP HN HT hj hpy
     go_wp2_with fail
     go_quiet (first | (go_at_call 187; refine Calls.quiet_of_same ((HJ.out _).mono fun _ _ ⟨he, hm⟩ => ⟨he, hm.symm⟩)))
     go_wp2
     go_roundw
     case rel => exact ⟨k + 1, by go_num, by omega, hide (HS.out _)⟩
     case measure => simp [intOf]; omega
   ·have hP := HP.out
    rw [if_neg (jn_no (fun h => hj h.2))] at hP
    have HS := hide (fun nq => HT.out nq hP)
    rw [Bool.not_eq_true] at hj
    rw [hj] at HJ
    clear hP HP HN HT hj
    go_wp2_with fail
    go_quiet (first | (go_at_call 187; refine Calls.quiet_of_same ((HJ.out _).mono fun _ _ ⟨he, hm⟩ => ⟨he, hm.symm⟩)))
    go_wp2
    go_roundw
    case rel => exact ⟨k + 1, by go_num, by omega, hide (HS.out _)⟩
    case measure => simp [intOf]; omega
  ·have hne : ¬ (k : Int) + 1 < (n : Int) - 1 := by omega
   rw [HE.out (k + 1) (by omega)] at hO
   clear hlt
   go_wp2
   go_end0
   exact ⟨rfl, hO.out⟩
theorem terminators_any (base g n cap : Nat) (s : Int) (zs : List Int) (w0 w : World) (h : OW base g n cap zs w0 w) (hn : n <= 17592186044416) :
  Calls Tryz.prog 174 #[.slice (some ⟨g, 0, none⟩) n cap, .int .i64 s] w fun e w' => e = .returned (.tuple #[]) /\ OW base g n cap (We.R 5 s zs) w0 w' := by
 obtain ⟨ii, hii, hy0, hy1, hy2⟩ := info_parts infoInt
 have HII : Hid (Tryz.prog.info? 3 = some ii) := hii
 have HL := hide h.len
 have hcap : n <= cap := h.row.le
 have H0 := hide (show OW base g n cap (We.P 5 s zs 0) w0 w from by rw [We.P_zero]; exact h)
 have HE := hide (show We.P 5 s zs n = We.R 5 s zs from We.P_end (by rw [h.len]; exact Nat.le_refl _))
 clear h hii hy0 hy1 hy2
 go_enter Tryz.func174, Tryz.ntmps174
 go_wp2
 go_loopw [4] (fun v wr => ∃ f : Nat, v = .int .i64 (f : Int) /\ f <= n /\ Hid (We.Edge zs f) /\ Hid (OW base g n cap (We.P 5 s zs f) w0 wr)) (fun v _ => n - (intOf v).toNat)
 case atStart => exact ⟨0, rfl, Nat.zero_le _, hide (We.edge_zero zs), H0⟩
 case round =>
  obtain ⟨f, rfl, hf, hE, hO⟩ := hrel
  by_cases hlt : f < n
  ·have hin : (f : Int) < (n : Int) := by omega
   have HST := hide (stretch_any (some ⟨g, 0, none⟩) n cap f (We.P 5 s zs f) wr hO.out.row hlt hn)
   go_wp2_with fail
   refine HST.out.mono ?_
   rintro e w1 ⟨e1, rfl, hS, nq, rfl⟩
   have hl := HL.out
   have hS' : We.Str zs f e1 := by
    have hle := hS.le
    rw [We.P_len] at hle
    refine ⟨hS.lt, hle, fun i h1 h2 => ?_, fun h1 => ?_⟩
    ·have := hS.all i h1 h2
     rw [We.P_here (by omega) h1, We.P_here (by omega) (Nat.le_refl _)] at this
     exact this
    ·have h3 := hS.lt
     have := hS.out (by rw [We.P_len]; exact h1)
     rw [We.P_here h1 (by omega), We.P_here (by omega) (Nat.le_refl _)] at this
     exact this
   have he1 := hS'.lt
   have he2 : e1 <= n := by have := hS'.le; omega
   have HSS := hide hS'
   have hO2 := hide (hO.out.drewN nq)
   clear hO hS hS' HST
   generalize wr.drewN nq = w1 at *
   have co := hO2.out.cell hlt
   rw [We.P_here (by omega) (Nat.le_refl _)] at co
   have HED := hide (We.edge_next HSS.out)
   have hin2 : (e1 : Int) <= (n : Int) := by omega
   by_cases h6 : zs.getD f 0 = 6
   ·rw [h6] at co
    have hA : ∃ A : Bool, (A = true ↔ (0 < f /\ zs.getD (f - 1) 0 = 4)) /\ Calls Tryz.prog 189 #[.slice (some ⟨g, 0, none⟩) n cap, .int .i64 ((f : Int) - 1), .int .i64 4] w1 fun e w' => e = .returned (.bool A) /\ w1 = w' := by
     cases f with
     | zero => exact ⟨false, by simp, has_neg (some ⟨g, 0, none⟩) n cap 4 w1⟩
     | succ f =>
      have := has_in (some ⟨g, 0, none⟩) n cap f 4 (We.P 5 s zs (f + 1)) w1 hO2.out.row (by omega)
      rw [We.P_last (by omega), We.five_prev hE.out (by omega) h6] at this
      refine ⟨zs.getD f 0 == 4, by simp, ?_⟩
      rw [show ((f + 1 : Nat) : Int) - 1 = (f : Int) by omega]
      exact this
    obtain ⟨A, hA1, hA2⟩ := hA
    have hB : ∃ B : Bool, (B = true ↔ zs.getD e1 0 = 4) /\ Calls Tryz.prog 189 #[.slice (some ⟨g, 0, none⟩) n cap, .int .i64 (e1 : Int), .int .i64 4] w1 fun e w' => e = .returned (.bool B) /\ w1 = w' := by
     by_cases hen : e1 < n
     ·have := has_in (some ⟨g, 0, none⟩) n cap e1 4 (We.P 5 s zs f) w1 hO2.out.row hen
      rw [We.P_here (by omega) (by omega)] at this
      exact ⟨zs.getD e1 0 == 4, by simp, this⟩
     ·exact ⟨false, by rw [We.getD_out (by omega)]; simp, has_out (some ⟨g, 0, none⟩) n cap e1 4 w1 (by omega)⟩
    obtain ⟨B, hB1, hB2⟩ := hB
    have HA2 := hide hA2
    have HB2 := hide hB2
    clear hA2 hB2 hl
    by_cases hAB : A = true \/ B = true
    ·have hH : We.Hit zs f e1 := ⟨h6, by rw [<- hA1, <- hB1]; exact hAB⟩
     have HF := hide (fill_any base g n cap (cap - f) f (e1 - f) 4 (We.P 5 s zs f) w0 w1 hO2.out (by omega) hn)
     rw [<- We.P_fill HSS.out hE.out hH] at HF
     have hsl := fun w' => run_mid Tryz.underlying30 HII.out cellsInt (some ⟨g, 0, none⟩) n cap f e1 (by omega) (by omega) w'
     have htl : tl (some ⟨g, 0, none⟩) cap f = some ⟨g, f, none⟩ := by
      unfold tl
      rw [if_neg (by omega)]
      simp only [Option.map_some, Option.some.injEq]
      unfold Addr.add
      split <;> simp_all
     rw [htl] at hsl
     obtain ⟨m, hm⟩ : ∃ m, e1 - f = m := ⟨_, rfl⟩
     obtain ⟨c2, hc2⟩ : ∃ c2, cap - f = c2 := ⟨_, rfl⟩
     rw [hm, hc2] at HF hsl
     clear hA1 hB1 h6 hH htl hm hc2 hO2 HSS
     cases A with
     | true =>
      clear HB2 hAB
      go_wp2_with fail
      refine HA2.out.mono ?_
      rintro e w2 ⟨rfl, rfl⟩
      go_wp2_with fail
      refine HF.out.mono ?_
      rintro e w2 ⟨rfl, hO3⟩
      have HM := hide hO3
      clear hO3 HF hsl HA2
      go_wp2
      go_roundw
      case rel => exact ⟨e1, by go_num, by omega, HED, HM⟩
      case measure => simp [intOf]; omega
     | false =>
      obtain rfl : B = true := by simpa using hAB
      clear hAB
      go_wp2_with fail
      refine HA2.out.mono ?_
      rintro e w2 ⟨rfl, rfl⟩
      go_wp2_with fail
      refine HB2.out.mono ?_
      rintro e w2 ⟨rfl, rfl⟩
      go_wp2_with fail
      refine HF.out.mono ?_
      rintro e w2 ⟨rfl, hO3⟩
      have HM := hide hO3
      clear hO3 HF hsl HA2 HB2
      go_wp2
      go_roundw
      case rel => exact ⟨e1, by go_num, by omega, HED, HM⟩
      case measure => simp [intOf]; omega
    ·have hH : ¬ We.Hit zs f e1 := fun h => hAB (by rw [hA1, hB1]; exact h.2)
     have HM := hide (show OW base g n cap (We.P 5 s zs e1) w0 w1 from by rw [We.P_miss HSS.out hE.out hH]; exact hO2.out)
     have hA0 : A = false := Bool.eq_false_iff.2 (fun h => hAB (.inl h))
     have hB0 : B = false := Bool.eq_false_iff.2 (fun h => hAB (.inr h))
     clear hA1 hB1 h6 hH hO2 HSS hAB
     subst hA0 hB0
     go_wp2_with fail
     refine HA2.out.mono ?_
     rintro e w2 ⟨rfl, rfl⟩
     go_wp2_with fail
     refine HB2.out.mono ?_
     rintro e w2 ⟨rfl, rfl⟩
     clear HA2 HB2
     go_wp2
     go_roundw
     case rel => exact ⟨e1, by go_num, by omega, HED, HM⟩
     case measure => simp [intOf]; omega
   ·have hH : ¬ We.Hit zs f e1 := fun h => h6 h.1
    have HM := hide (show OW base g n cap (We.P 5 s zs e1) w0 w1 from by rw [We.P_miss HSS.out hE.out hH]; exact hO2.out)
    have e6 : (zs.getD f 0 == 6) = false := beq_false_of_ne h6
    generalize zs.getD f 0 = x at *
    clear hH h6 hO2 HSS
    go_wp2
    go_roundw
    case rel => exact ⟨e1, by go_num, by omega, HED, HM⟩
    case measure => simp [intOf]; omega
  ·obtain rfl : f = n := by omega
   have hne : ¬ ((f : Int) < (f : Int)) := by omega
   rw [HE.out] at hO
   clear hlt
   go_wp2
   go_end0
   exact ⟨rfl, hO.out⟩
end Go.Proofs.YtfcoebbblfcdoaaGreatDoor

/- rules, behind, Step, Resolve. -/
namespace Go.Proofs.YtfcoebbblfcdoaaGreatDoor
open Go.RowKit
set_option linter.unusedVariables false
set_option maxHeartbeats 1000000
set_option maxRecDepth 100000
def rfn : Nat -> Nat
 | 0 => 170
 | 1 => 171
 | 2 => 172
 | 3 => 173
 | 4 => 174
 | 5 => 175
 | _ => 176
structure FC (w : World) (b : Nat) : Prop where
 lt : b < w.heap.size
 cells : ∀ j, j < 7 -> w.cell? ⟨b, j, none⟩ = some (.func (.func (rfn j)) #[] #[])
theorem FC.keep {w w' : World} {b B : Nat} (h : FC w b) (hb : Below B w w') (hB : b < B) : FC w' b :=
 ⟨Nat.lt_of_lt_of_le h.lt hb.size, fun j hj => (hb.cell (by exact hB)).trans (h.cells j hj)⟩
theorem wrules_any (w : World) : Calls Tryz.prog 153 #[] w fun e w' => e = .returned (.slice (some ⟨w.heap.size, 0, none⟩) 7 7) /\ FC w' w.heap.size /\ KO w w' := by
 go_enter Tryz.func153, Tryz.ntmps153
 go_wp2
 go_ret
 refine ⟨rfl, ⟨by simp, fun j hj => ?_⟩, KO.alloc (KO.refl _) _⟩
 rw [World.cell?_alloc_mark]
 have hj' : j = 0 \/ j = 1 \/ j = 2 \/ j = 3 \/ j = 4 \/ j = 5 \/ j = 6 := by omega
 rcases hj' with rfl | rfl | rfl | rfl | rfl | rfl | rfl <;> rfl
theorem wrule_any (j : Nat) (hj : j < 7) (base g n cap : Nat) (s : Int) (hs : We.Side s) (zs : List Int) (w0 w : World) (h : OW base g n cap zs w0 w) (hn : n <= 17592186044416) :
  Calls Tryz.prog (rfn j) #[.slice (some ⟨g, 0, none⟩) n cap, .int .i64 s] w fun e w' => e = .returned (.tuple #[]) /\ OW base g n cap (We.R (j + 1) s zs) w0 w' := by
 have hj' : j = 0 \/ j = 1 \/ j = 2 \/ j = 3 \/ j = 4 \/ j = 5 \/ j = 6 := by omega
 rcases hj' with rfl | rfl | rfl | rfl | rfl | rfl | rfl
 ·exact marks_any base g n cap s zs w0 w h hn
 ·exact arabicNumbers_any base g n cap s zs w0 w h hn
 ·exact arabicLetters_any base g n cap s zs w0 w h hn
 ·exact separators_any base g n cap s hs zs w0 w h hn
 ·exact terminators_any base g n cap s zs w0 w h hn
 ·exact leftovers_any base g n cap s zs w0 w h hn
 ·exact latinNumbers_any base g n cap s zs w0 w h hn
def RF (r0 : Nat) (s : Int) (t : List Int) : Nat -> List Int
 | 0 => t
 | k + 1 => We.R (r0 + k + 1) s (RF r0 s t k)
theorem RF_succ (r0 : Nat) (s : Int) (t : List Int) (k : Nat) : RF r0 s t (k + 1) = We.R (r0 + k + 1) s (RF r0 s t k) := rfl
theorem RF_zero (s : Int) (t : List Int) (k : Nat) : RF 0 s t k = We.RR s t k := by
 induction k with
 | zero => rfl
 | succ k ih => rw [RF_succ, ih, Nat.zero_add, We.RR_succ]
theorem side_tests {s : Int} (h : We.Side s) : (s = 1) \/ (¬ s = 1 /\ s = 2) := by unfold We.Side at h; omega
theorem behind_ok (ao : Option Addr) (n cap : Nat) (s : Int) (b r0 m cp : Nat) (c : List Int) (w : World) (h : Row .i64 w ao n cap c) (hn : n * 8 <= 140737488351232) (hs : We.Side s) (hok : We.Ok c) (hf : FC w b) (hm : r0 + m <= 7) :
  Calls Tryz.prog 152 #[.slice ao n cap, .int .i64 s, .slice (some ⟨b, r0, none⟩) m cp] w fun e w' => e = .returned (.tuple #[.slice (some ⟨w.heap.size, 0, none⟩) n n, .int .i64 0]) /\ OW w.heap.size w.heap.size n n (RF r0 s c m) w w' := by
 obtain ⟨ii, hii, hy0, hy1, hy2⟩ := info_parts infoInt
 have HII : Hid (Tryz.prog.info? 3 = some ii) := hii
 have HY0 := hide hy0
 have HY1 := hide hy1
 have HY2 := hide hy2
 have H := hide h
 have HL := hide h.len
 have HB := hide hok
 have HF := hide hf
 have hn2 : n <= 17592186044416 := by omega
 have hs' := side_tests hs
 have HS := hide hs
 clear h hok hf hii hy0 hy1 hy2 hs
 obtain ⟨Z, hZ⟩ : ∃ Z, RF r0 s c m = Z := ⟨_, rfl⟩
 have HZ := hide hZ
 rw [hZ]
 clear hZ
 have HRU := hide (fun (j : Nat) (hj : j < 7) (zs : List Int) (w' : World) (h : OW w.heap.size w.heap.size n n zs w w') => wrule_any j hj w.heap.size w.heap.size n n s HS.out zs w w' h hn2)
 have HRF := hide (fun (k : Nat) => RF_succ r0 s c k)
 obtain ⟨F, hF⟩ : ∃ F : Nat -> List Int, F = RF r0 s c := ⟨_, rfl⟩
 rw [<- hF] at HRF HZ
 have HR0 := hide (show F 0 = c from by rw [hF]; rfl)
 clear hF HS
 rcases hs' with rfl | ⟨h1, rfl⟩
 all_goals
  go_enter Tryz.func152, Tryz.ntmps152
  go_wp2
  go_loopw [21] (fun v wr => ∃ k : Nat, v = .int .i64 (k : Int) /\ k <= n /\ w = wr) (fun v _ => n - (intOf v).toNat)
  case atStart => exact ⟨0, rfl, Nat.zero_le _, rfl⟩
  case round =>
   obtain ⟨k, rfl, hk, rfl⟩ := hrel
   by_cases hlt : k < n
   ·obtain ⟨bb, off, rfl, hbl, hc⟩ := H.out.cells (by omega)
    have hkl : k < c.length := by rw [HL.out]; exact hlt
    have ck : w.cell? ⟨bb, off + k, none⟩ = some (.int .i64 (c.getD k 0)) := hc k hkl
    have hin : (k : Int) < (n : Int) := by omega
    have HM := hide (mayBe_any (c.getD k 0) w)
    rw [decide_eq_true (HB.out k hkl)] at HM
    generalize c.getD k 0 = x at *
    clear hc hkl
    go_wp2_with (go_at_call 169; refine HM.out.mono ?_; rintro e w' ⟨rfl, rfl⟩)
    go_roundw
    case rel => exact ⟨k + 1, by go_num, by omega, trivial⟩
    case measure => simp [intOf]; omega
   ·obtain rfl : k = n := by omega
    have hne : ¬ ((k : Int) < (k : Int)) := by omega
    clear hlt hk
    go_wp2_with (at_make; refine wpList_make_full _ rfl _ _ 30 rfl w.heap.size 3 ii (.int .i64 0) 1 Tryz.underlying30 HII.out HY0.out HY1.out _ _ _ _ k rfl rfl rfl rfl ?b2 ?b3 (Nat.le_refl _) ?_)
    case b2 => rw [HY2.out]; omega
    case b3 => unfold maxLen; omega
    intro w1 hown hgrow
    have hbel := (Below.refl w.heap.size w).grown hgrow (Nat.le_refl _) (fun _ h => by cases h)
    obtain ⟨cur, hcg, hcl⟩ : ∃ cur : List Value, w1.heap[w.heap.size]? = some (.cells cur.toArray 3 (0, 0)) /\ cur.length = k := ⟨_, block_owns hown, by have := hown.1; rw [Nat.mul_one] at this; exact this⟩
    have HG := hide hcg
    have HGL := hide hcl
    have HBE := hide hbel
    have HR1 := hide (H.out.below hbel)
    clear hown hgrow hbel hcg hcl
    obtain ⟨w2, hcp, hg2, hb2⟩ := run_copy_ints HR1.out HG.out HGL.out HBE.out (Nat.le_refl _)
    have HO := hide (show OW w.heap.size w.heap.size k k (F 0) w w2 from by
     refine ⟨owns_block hg2 ?_ ?_ ?_ (Nat.le_refl _), hb2⟩
     ·rw [HR0.out]
     ·rw [HR0.out, HL.out]
     ·unfold maxLen; omega)
    clear hg2 hb2 HG HGL HR1 HBE
    go_wp2
    clear hcp
    go_loopw [37] (fun v wr => ∃ j : Nat, v = .int .i64 (j : Int) /\ j <= m /\ Hid (OW w.heap.size w.heap.size k k (F j) w wr)) (fun v _ => m - (intOf v).toNat)
    case atStart => exact ⟨0, rfl, Nat.zero_le _, HO⟩
    case round =>
     obtain ⟨j, rfl, hj, hO⟩ := hrel
     by_cases hjm : j < m
     ·have hin : (j : Int) < (m : Int) := by omega
      have cf := (HF.out.keep hO.out.bel HF.out.lt).cells (r0 + j) (by omega)
      have HC := hide (HRU.out (r0 + j) (by omega) (F j) wr hO.out)
      rw [<- HRF.out j] at HC
      have HM := hide (meas_n0 m j hjm)
      clear hO
      have hj7 : r0 + j = 0 \/ r0 + j = 1 \/ r0 + j = 2 \/ r0 + j = 3 \/ r0 + j = 4 \/ r0 + j = 5 \/ r0 + j = 6 := by omega
      obtain ⟨fno, hfno⟩ : ∃ fno, rfn (r0 + j) = fno := ⟨_, rfl⟩
      rw [hfno] at cf HC
      have hall : fno = 170 \/ fno = 171 \/ fno = 172 \/ fno = 173 \/ fno = 174 \/ fno = 175 \/ fno = 176 := by
       rw [<- hfno]
       rcases hj7 with h | h | h | h | h | h | h <;> rw [h] <;> decide
      clear hfno hj7
      rcases hall with rfl | rfl | rfl | rfl | rfl | rfl | rfl
      all_goals
       go_wp2_with fail
       refine HC.out.mono ?_
       rintro e w3 ⟨rfl, hO3⟩
       have HO3 := hide hO3
       clear hO3 HC cf
       go_wp2
       go_roundw
       case rel => exact ⟨j + 1, by go_num, by omega, HO3⟩
       case measure => simp [intOf]; omega
     ·obtain rfl : j = m := by omega
      have hne : ¬ ((j : Int) < (j : Int)) := by omega
      rw [HZ.out] at hO
      clear hjm
      go_wp2
      go_ret2
      exact ⟨rfl, hO.out⟩
end Go.Proofs.YtfcoebbblfcdoaaGreatDoor

/- Step, Resolve. -/
namespace Go.Proofs.YtfcoebbblfcdoaaGreatDoor
open Go.RowKit
set_option linter.unusedVariables false
set_option maxHeartbeats 1000000
set_option maxRecDepth 100000
structure New (w : World) (ao : Option Addr) (n cap : Nat) (zs : List Int) (w' : World) : Prop where
 row : Row .i64 w' ao n cap zs
 bel : KO w w'
theorem wresolve_ok (ao : Option Addr) (n cap : Nat) (s : Int) (c : List Int) (w : World) (h : Row .i64 w ao n cap c) (hn : n * 8 <= 140737488351232) (hs : We.Side s) (hb : We.Ok c) :
  Calls Tryz.prog 147 #[.slice ao n cap, .int .i64 s] w fun e w' => ∃ g, e = .returned (.tuple #[.slice (some ⟨g, 0, none⟩) n n, .int .i64 0]) /\ New w (some ⟨g, 0, none⟩) n n (We.RR s c 7) w' := by
 have HR := hide (wrules_any w)
 have HB := hide (fun w' (hk : KO w w') (hf : FC w' w.heap.size) => behind_ok ao n cap s w.heap.size 0 7 7 c w' (h.below hk) hn hs hb hf (by omega))
 clear hs hb h
 go_enter Tryz.func147, Tryz.ntmps147
 go_wp2_with fail
 refine HR.out.mono ?_
 rintro e w1 ⟨rfl, hf, hk⟩
 have HB2 := hide (HB.out w1 hk hf)
 have HK := hide hk
 clear hf hk HB HR
 go_wp2_with fail
 refine HB2.out.mono ?_
 rintro e w2 ⟨rfl, hO⟩
 have HN := hide (show New w (some ⟨w1.heap.size, 0, none⟩) n n (We.RR s c 7) w2 from ⟨by rw [<- RF_zero]; exact hO.row, KO.on HK.out hO.bel⟩)
 clear hO HB2
 go_wp2
 go_ret2
 exact ⟨_, rfl, HN.out⟩
end Go.Proofs.YtfcoebbblfcdoaaGreatDoor

/- works: the chapter's examples. -/
namespace Go.Proofs.YtfcoebbblfcdoaaGreatDoor
open Go.RowKit
set_option linter.unusedVariables false
set_option maxHeartbeats 1000000
set_option maxRecDepth 100000
theorem New.keep {w w' w2 : World} {ao : Option Addr} {n cap : Nat} {zs : List Int} (h : New w ao n cap zs w') (hk : KO w' w2) : New w ao n cap zs w2 := ⟨h.row.below hk, KO.on h.bel hk⟩
end Go.Proofs.YtfcoebbblfcdoaaGreatDoor
