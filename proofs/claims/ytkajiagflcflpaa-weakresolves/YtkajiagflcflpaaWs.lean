/- The document's answer (colophonref09): one, rule by rule. -/
import Derived.Test.YtkajiagflcflpaaWr
namespace Go.Proofs.Ytkajiagflcflpaa
open Go.RowKit
set_option linter.unusedVariables false
set_option maxHeartbeats 1000000
set_option maxRecDepth 100000
/-- What 'one' is handed: the types, and those ahead, behind the rule. -/
structure On (r : Nat) (s : Int) (c : List Int) (w : World) (ao : Option Addr) (n cap : Nat) (a1 : Option Addr) (c1 i : Nat) : Prop where
  row : Row .i64 w ao n cap c
  out : ∃ zs, Row .i64 w a1 i c1 zs ∧ ∀ j, j < i → zs.getD j 0 = We.pv r s c (j + 1)
  lt : i < n
  le : n ≤ 400
  side : We.Side s
section
variable {r : Nat} {s : Int} {c : List Int} {w : World} {ao : Option Addr} {n cap : Nat} {a1 : Option Addr} {c1 i : Nat}
theorem On.cell (h : On r s c w ao n cap a1 c1 i) : ∃ b off, ao = some ⟨b, off, none⟩ ∧ ∀ j, j < n → w.cell? ⟨b, off + j, none⟩ = some (.int .i64 (c.getD j 0)) := by
  obtain ⟨b, off, e, _, hc⟩ := h.row.cells (by have := h.lt; omega)
  exact ⟨b, off, e, fun j hj => hc j (by rw [h.row.len]; exact hj)⟩
theorem On.prev {m : Nat} (h : On r s c w ao n cap a1 c1 (m + 1)) : ∃ b off, a1 = some ⟨b, off, none⟩ ∧ w.cell? ⟨b, off + m, none⟩ = some (.int .i64 (We.pv r s c (m + 1))) := by
  obtain ⟨zs, hz, hv⟩ := h.out
  obtain ⟨b, off, e, _, hc⟩ := hz.cells (by omega)
  exact ⟨b, off, e, by rw [hc m (by rw [hz.len]; omega), hv m (by omega)]⟩
end
theorem drew0 (w : World) : ∃ k, w = w.drewN k := ⟨0, rfl⟩
theorem rone1 {s : Int} {c : List Int} {w : World} {ao : Option Addr} {n cap : Nat} {a1 : Option Addr} {c1 i : Nat} (h : On 1 s c w ao n cap a1 c1 i) :
    Calls Try.prog 28 #[.slice ao n cap, .slice a1 i c1, .int .i64 s, .int .i64 1, .int .i64 (i : Int)] w fun e w' => e = .returned (.int .i64 (We.pv 1 s c (i + 1))) ∧ ∃ k, w' = w.drewN k := by
  have hlt := h.lt
  have hle := h.le
  obtain ⟨b, off, rfl, hc⟩ := h.cell
  have ci := hc i hlt
  have hin : (i : Int) < (n : Int) := by omega
  have hp := pv1 s c i
  clear hc
  cases i with
  | zero =>
    have e0 : We.pv 1 s c 0 = s := rfl
    have em : We.mk s = s := by have := h.side; unfold We.Side at this; unfold We.mk; rw [if_neg (by omega)]
    rw [e0, em] at hp
    obtain ⟨R, hR⟩ : ∃ R, We.pv 1 s c (0 + 1) = R := ⟨_, rfl⟩
    rw [hR] at hp ⊢
    have ez : ((0 : Nat) : Int) = 0 := rfl
    rw [ez] at hin ⊢
    rw [Nat.add_zero] at ci
    clear h e0 em hR ez
    generalize c.getD 0 0 = x at *
    by_cases h9 : x = 9
    · rw [if_pos h9] at hp
      have HP := hide hp
      clear hp
      subst h9
      go_enter Try.func28, Try.ntmps28
      go_wp2
      go_ret
      exact ⟨ret_int HP.out.symm, drew0 _⟩
    · rw [if_neg h9] at hp
      have HP := hide hp
      have e9 : (x != 9) = true := bne_iff_ne.2 h9
      clear hp
      go_enter Try.func28, Try.ntmps28
      go_wp2
      go_ret
      exact ⟨ret_int HP.out.symm, drew0 _⟩
  | succ m =>
    obtain ⟨b1, o1, rfl, cp⟩ := h.prev
    have e1 : ((m + 1 : Nat) : Int) = (m : Int) + 1 := by omega
    rw [e1] at hin ⊢
    obtain ⟨R, hR⟩ : ∃ R, We.pv 1 s c (m + 1 + 1) = R := ⟨_, rfl⟩
    rw [hR] at hp ⊢
    clear h e1 hR
    generalize We.pv 1 s c (m + 1) = p at *
    generalize c.getD (m + 1) 0 = x at *
    have hm1 : (m : Int) < (m : Int) + 1 := by omega
    have hz : ((m : Int) + 1 == 0) = false := beq_false_of_ne (by omega)
    by_cases h9 : x = 9
    · rw [if_pos h9] at hp
      have HP := hide hp
      clear hp
      subst h9
      have hcs : (p = 20 ∨ (¬ p = 20 ∧ p = 21) ∨ (¬ p = 20 ∧ ¬ p = 21 ∧ p = 22) ∨ (¬ p = 20 ∧ ¬ p = 21 ∧ ¬ p = 22 ∧ p = 23)) ∨ (¬ p = 20 ∧ ¬ p = 21 ∧ ¬ p = 22 ∧ ¬ p = 23) := by omega
      rcases hcs with hp | ⟨p1, p2, p3, p4⟩
      · have HE := hide (show R = 14 from by rw [HP.out]; unfold We.mk; rw [if_pos (by omega)])
        clear HP
        rcases hp with rfl | ⟨p1, rfl⟩ | ⟨p1, p2, rfl⟩ | ⟨p1, p2, p3, rfl⟩
        all_goals
          go_enter Try.func28, Try.ntmps28
          go_wp2
          go_ret
          exact ⟨ret_int HE.out.symm, drew0 _⟩
      · have HE := hide (show R = p from by rw [HP.out]; unfold We.mk; rw [if_neg (by omega)])
        have q1 : (p == 20) = false := beq_false_of_ne p1
        have q2 : (p == 21) = false := beq_false_of_ne p2
        have q3 : (p == 22) = false := beq_false_of_ne p3
        have q4 : (p == 23) = false := beq_false_of_ne p4
        clear HP p1 p2 p3 p4
        go_enter Try.func28, Try.ntmps28
        go_wp2
        go_ret
        exact ⟨ret_int HE.out.symm, drew0 _⟩
    · rw [if_neg h9] at hp
      have HP := hide hp
      have e9 : (x != 9) = true := bne_iff_ne.2 h9
      clear hp
      go_enter Try.func28, Try.ntmps28
      go_wp2
      go_ret
      exact ⟨ret_int HP.out.symm, drew0 _⟩
theorem rone2 {s : Int} {c : List Int} {w : World} {ao : Option Addr} {n cap : Nat} {a1 : Option Addr} {c1 i : Nat} (h : On 2 s c w ao n cap a1 c1 i) :
    Calls Try.prog 28 #[.slice ao n cap, .slice a1 i c1, .int .i64 s, .int .i64 2, .int .i64 (i : Int)] w fun e w' => e = .returned (.int .i64 (We.pv 2 s c (i + 1))) ∧ ∃ k, w' = w.drewN k := by
  have hlt := h.lt
  have hle := h.le
  have HS := hide (rstrong_any ao n cap s i c w h.row hle hlt)
  obtain ⟨b, off, rfl, hc⟩ := h.cell
  have ci := hc i hlt
  have hin : (i : Int) < (n : Int) := by omega
  have hp := pv2 s c i
  obtain ⟨R, hR⟩ : ∃ R, We.pv 2 s c (i + 1) = R := ⟨_, rfl⟩
  rw [hR] at hp ⊢
  clear hc h hR
  generalize We.strong c s i = S at *
  generalize c.getD i 0 = x at *
  by_cases h4 : x = 4
  · by_cases h3 : S = 3
    · rw [if_pos ⟨h4, h3⟩] at hp
      have HP := hide hp
      clear hp
      subst h4 h3
      go_enter Try.func28, Try.ntmps28
      go_wp2_with (go_at_call 35; refine HS.out.mono ?_; rintro e w' ⟨rfl, rfl⟩)
      go_ret
      exact ⟨ret_int HP.out.symm, drew0 _⟩
    · rw [if_neg (fun h => h3 h.2)] at hp
      have HP := hide hp
      have e3 : (S == 3) = false := beq_false_of_ne h3
      clear hp h3
      subst h4
      go_enter Try.func28, Try.ntmps28
      go_wp2_with (go_at_call 35; refine HS.out.mono ?_; rintro e w' ⟨rfl, rfl⟩)
      go_ret
      exact ⟨ret_int HP.out.symm, drew0 _⟩
  · rw [if_neg (fun h => h4 h.1)] at hp
    have HP := hide hp
    have e4 : (x == 4) = false := beq_false_of_ne h4
    clear hp h4 HS
    go_enter Try.func28, Try.ntmps28
    go_wp2
    go_ret
    exact ⟨ret_int HP.out.symm, drew0 _⟩
theorem rone7 {s : Int} {c : List Int} {w : World} {ao : Option Addr} {n cap : Nat} {a1 : Option Addr} {c1 i : Nat} (h : On 7 s c w ao n cap a1 c1 i) :
    Calls Try.prog 28 #[.slice ao n cap, .slice a1 i c1, .int .i64 s, .int .i64 7, .int .i64 (i : Int)] w fun e w' => e = .returned (.int .i64 (We.pv 7 s c (i + 1))) ∧ ∃ k, w' = w.drewN k := by
  have hlt := h.lt
  have hle := h.le
  have HS := hide (rstrong_any ao n cap s i c w h.row hle hlt)
  obtain ⟨b, off, rfl, hc⟩ := h.cell
  have ci := hc i hlt
  have hin : (i : Int) < (n : Int) := by omega
  have hp := pv7 s c i
  obtain ⟨R, hR⟩ : ∃ R, We.pv 7 s c (i + 1) = R := ⟨_, rfl⟩
  rw [hR] at hp ⊢
  clear hc h hR
  generalize We.strong c s i = S at *
  generalize c.getD i 0 = x at *
  by_cases h4 : x = 4
  · by_cases h3 : S = 1
    · rw [if_pos ⟨h4, h3⟩] at hp
      have HP := hide hp
      clear hp
      subst h4 h3
      go_enter Try.func28, Try.ntmps28
      go_wp2_with (go_at_call 35; refine HS.out.mono ?_; rintro e w' ⟨rfl, rfl⟩)
      go_ret
      exact ⟨ret_int HP.out.symm, drew0 _⟩
    · rw [if_neg (fun h => h3 h.2)] at hp
      have HP := hide hp
      have e3 : (S == 1) = false := beq_false_of_ne h3
      clear hp h3
      subst h4
      go_enter Try.func28, Try.ntmps28
      go_wp2_with (go_at_call 35; refine HS.out.mono ?_; rintro e w' ⟨rfl, rfl⟩)
      go_ret
      exact ⟨ret_int HP.out.symm, drew0 _⟩
  · rw [if_neg (fun h => h4 h.1)] at hp
    have HP := hide hp
    have e4 : (x == 4) = false := beq_false_of_ne h4
    clear hp h4 HS
    go_enter Try.func28, Try.ntmps28
    go_wp2
    go_ret
    exact ⟨ret_int HP.out.symm, drew0 _⟩
theorem rone3 {s : Int} {c : List Int} {w : World} {ao : Option Addr} {n cap : Nat} {a1 : Option Addr} {c1 i : Nat} (h : On 3 s c w ao n cap a1 c1 i) :
    Calls Try.prog 28 #[.slice ao n cap, .slice a1 i c1, .int .i64 s, .int .i64 3, .int .i64 (i : Int)] w fun e w' => e = .returned (.int .i64 (We.pv 3 s c (i + 1))) ∧ ∃ k, w' = w.drewN k := by
  have hlt := h.lt
  have hle := h.le
  obtain ⟨b, off, rfl, hc⟩ := h.cell
  have ci := hc i hlt
  have hin : (i : Int) < (n : Int) := by omega
  have hp := pv3 s c i
  obtain ⟨R, hR⟩ : ∃ R, We.pv 3 s c (i + 1) = R := ⟨_, rfl⟩
  rw [hR] at hp ⊢
  clear hc h hR
  generalize c.getD i 0 = x at *
  by_cases h3 : x = 3
  · rw [if_pos h3] at hp
    have HP := hide hp
    clear hp
    subst h3
    go_enter Try.func28, Try.ntmps28
    go_wp2
    go_ret
    exact ⟨ret_int HP.out.symm, drew0 _⟩
  · rw [if_neg h3] at hp
    have HP := hide hp
    have e3 : (x == 3) = false := beq_false_of_ne h3
    clear hp h3
    go_enter Try.func28, Try.ntmps28
    go_wp2
    go_ret
    exact ⟨ret_int HP.out.symm, drew0 _⟩
theorem rone6 {s : Int} {c : List Int} {w : World} {ao : Option Addr} {n cap : Nat} {a1 : Option Addr} {c1 i : Nat} (h : On 6 s c w ao n cap a1 c1 i) :
    Calls Try.prog 28 #[.slice ao n cap, .slice a1 i c1, .int .i64 s, .int .i64 6, .int .i64 (i : Int)] w fun e w' => e = .returned (.int .i64 (We.pv 6 s c (i + 1))) ∧ ∃ k, w' = w.drewN k := by
  have hlt := h.lt
  have hle := h.le
  obtain ⟨b, off, rfl, hc⟩ := h.cell
  have ci := hc i hlt
  have hin : (i : Int) < (n : Int) := by omega
  have hp := pv6 s c i
  obtain ⟨R, hR⟩ : ∃ R, We.pv 6 s c (i + 1) = R := ⟨_, rfl⟩
  rw [hR] at hp ⊢
  clear hc h hR
  generalize c.getD i 0 = x at *
  have hcs : ((x = 5 ∨ (¬ x = 5 ∧ x = 6) ∨ (¬ x = 5 ∧ ¬ x = 6 ∧ x = 8))) ∨ (¬ x = 5 ∧ ¬ x = 6 ∧ ¬ x = 8) := by omega
  rcases hcs with hx | ⟨x1, x2, x3⟩
  · rw [if_pos (by omega)] at hp
    have HP := hide hp
    clear hp
    rcases hx with rfl | ⟨x1, rfl⟩ | ⟨x1, x2, rfl⟩
    all_goals
      go_enter Try.func28, Try.ntmps28
      go_wp2
      go_ret
      exact ⟨ret_int HP.out.symm, drew0 _⟩
  · rw [if_neg (by omega)] at hp
    have HP := hide hp
    have f1 : (x == 5) = false := beq_false_of_ne x1
    have f2 : (x == 6) = false := beq_false_of_ne x2
    have f3 : (x == 8) = false := beq_false_of_ne x3
    clear hp x1 x2 x3
    go_enter Try.func28, Try.ntmps28
    go_wp2
    go_ret
    exact ⟨ret_int HP.out.symm, drew0 _⟩
theorem pv5 (s : Int) (t : List Int) (k : Nat) : We.pv 5 s t (k + 1) = if t.getD k 0 = 6 ∧ (We.lf t k = 4 ∨ We.rt (t.drop k) = 4) then 4 else t.getD k 0 := rfl
theorem rone5 {s : Int} {c : List Int} {w : World} {ao : Option Addr} {n cap : Nat} {a1 : Option Addr} {c1 i : Nat} (h : On 5 s c w ao n cap a1 c1 i) :
    Calls Try.prog 28 #[.slice ao n cap, .slice a1 i c1, .int .i64 s, .int .i64 5, .int .i64 (i : Int)] w fun e w' => e = .returned (.int .i64 (We.pv 5 s c (i + 1))) ∧ ∃ k, w' = w.drewN k := by
  have hlt := h.lt
  have hle := h.le
  have HL := hide (redge_left ao n cap i c w h.row hle hlt)
  have HR := hide (redge_right ao n cap i c w h.row hle hlt)
  obtain ⟨b, off, rfl, hc⟩ := h.cell
  have ci := hc i hlt
  have hin : (i : Int) < (n : Int) := by omega
  have hp := pv5 s c i
  obtain ⟨R, hR⟩ : ∃ R, We.pv 5 s c (i + 1) = R := ⟨_, rfl⟩
  rw [hR] at hp ⊢
  have hlf : We.lf c (i + 1) = if c.getD i 0 = 6 then We.lf c i else c.getD i 0 := rfl
  rw [hlf] at HL
  clear hc h hR hlf
  generalize We.lf c i = A at *
  generalize We.rt (c.drop i) = B at *
  generalize c.getD i 0 = x at *
  by_cases h6 : x = 6
  · rw [if_pos h6] at HL
    by_cases hA : A = 4
    · rw [if_pos ⟨h6, .inl hA⟩] at hp
      have HP := hide hp
      clear hp HR
      subst h6 hA
      go_enter Try.func28, Try.ntmps28
      go_wp2_with fail
      refine HL.out.mono ?_
      rintro e w' ⟨rfl, rfl⟩
      go_wp2
      go_ret
      exact ⟨ret_int HP.out.symm, drew0 _⟩
    · have eA : (A == 4) = false := beq_false_of_ne hA
      by_cases hB : B = 4
      · rw [if_pos ⟨h6, .inr hB⟩] at hp
        have HP := hide hp
        clear hp hA
        subst h6 hB
        go_enter Try.func28, Try.ntmps28
        go_wp2_with fail
        refine HL.out.mono ?_
        rintro e w' ⟨rfl, rfl⟩
        go_wp2_with fail
        refine HR.out.mono ?_
        rintro e w' ⟨rfl, rfl⟩
        go_wp2
        go_ret
        exact ⟨ret_int HP.out.symm, drew0 _⟩
      · rw [if_neg (fun h => h.2.elim hA hB)] at hp
        have HP := hide hp
        have eB : (B == 4) = false := beq_false_of_ne hB
        clear hp hA hB
        subst h6
        go_enter Try.func28, Try.ntmps28
        go_wp2_with fail
        refine HL.out.mono ?_
        rintro e w' ⟨rfl, rfl⟩
        go_wp2_with fail
        refine HR.out.mono ?_
        rintro e w' ⟨rfl, rfl⟩
        go_wp2
        go_ret
        exact ⟨ret_int HP.out.symm, drew0 _⟩
  · rw [if_neg (fun h => h6 h.1)] at hp
    have HP := hide hp
    have e6 : (x == 6) = false := beq_false_of_ne h6
    clear hp h6 HL HR
    go_enter Try.func28, Try.ntmps28
    go_wp2
    go_ret
    exact ⟨ret_int HP.out.symm, drew0 _⟩
theorem rone4 {s : Int} {c : List Int} {w : World} {ao : Option Addr} {n cap : Nat} {a1 : Option Addr} {c1 i : Nat} (h : On 4 s c w ao n cap a1 c1 i) :
    Calls Try.prog 28 #[.slice ao n cap, .slice a1 i c1, .int .i64 s, .int .i64 4, .int .i64 (i : Int)] w fun e w' => e = .returned (.int .i64 (We.pv 4 s c (i + 1))) ∧ ∃ k, w' = w.drewN k := by
  have hlt := h.lt
  have hle := h.le
  have hcl := h.row.len
  obtain ⟨b, off, rfl, hc⟩ := h.cell
  have ci := hc i hlt
  have hin : (i : Int) < (n : Int) := by omega
  cases i with
  | zero =>
    have hp := We.four_first (t := c) h.side
    obtain ⟨R, hR⟩ : ∃ R, We.pv 4 s c (0 + 1) = R := ⟨_, rfl⟩
    have hR' : We.pv 4 s c 1 = R := hR
    rw [hR'] at hp
    rw [hR]
    have HP := hide hp
    have ez : ((0 : Nat) : Int) = 0 := rfl
    rw [ez] at hin ⊢
    rw [Nat.add_zero] at ci
    clear hp h ez hR hR' hc
    generalize c.getD 0 0 = x at *
    go_enter Try.func28, Try.ntmps28
    go_wp2
    go_quiet (fail)
    go_wp2
    go_ret
    exact ⟨ret_int HP.out.symm, _, by first | rfl | exact World.drewN_drewN _ _ _⟩
  | succ m =>
    obtain ⟨b1, o1, rfl, cp⟩ := h.prev
    have e1 : ((m + 1 : Nat) : Int) = (m : Int) + 1 := by omega
    have hm1 : (m : Int) < (m : Int) + 1 := by omega
    have hm0 : (0 : Int) < (m : Int) + 1 := by omega
    have d1 : decide ((0 : Int) < (m : Int) + 1) = true := decide_eq_true (by omega)
    rw [e1] at hin ⊢
    by_cases hlt2 : m + 1 + 1 < n
    · have cn := hc (m + 1 + 1) hlt2
      have hin2 : (m : Int) + 1 + 1 < (n : Int) := by omega
      have d2 : decide ((m : Int) + 1 + 1 < (n : Int)) = true := decide_eq_true (by omega)
      have hp := pv4 s c (m + 1)
      obtain ⟨R, hR⟩ : ∃ R, We.pv 4 s c (m + 1 + 1) = R := ⟨_, rfl⟩
      rw [hR] at hp ⊢
      clear h e1 hR hc hcl
      generalize We.pv 4 s c (m + 1) = p at *
      generalize c.getD (m + 1) 0 = x at *
      generalize c.getD (m + 1 + 1) 0 = y at *
      by_cases hpy : p = y
      · have hE : (p == y) = true := beq_iff_eq.2 hpy
        have hcs : (x = 5 ∧ y = 4 ∧ R = y) ∨ (x = 5 ∧ ¬ y = 4 ∧ R = x) ∨ (x = 8 ∧ y = 4 ∧ R = y) ∨ (x = 8 ∧ ¬ y = 4 ∧ y = 7 ∧ R = y) ∨ (x = 8 ∧ ¬ y = 4 ∧ ¬ y = 7 ∧ R = x) ∨ (¬ x = 5 ∧ ¬ x = 8 ∧ R = x) := by
          by_cases hq : p = y ∧ ((x = 5 ∧ y = 4) ∨ (x = 8 ∧ (y = 4 ∨ y = 7)))
          · rw [if_pos hq] at hp; omega
          · rw [if_neg hq] at hp; omega
        clear hp hpy
        rcases hcs with ⟨rfl, rfl, hr⟩ | ⟨rfl, y4, hr⟩ | ⟨rfl, rfl, hr⟩ | ⟨rfl, y4, rfl, hr⟩ | ⟨rfl, y4, y7, hr⟩ | ⟨x5, x8, hr⟩
        · have HP := hide hr
          clear hr
          go_enter Try.func28, Try.ntmps28
          go_wp2
          go_quiet (fail)
          go_wp2
          go_ret
          exact ⟨ret_int HP.out.symm, _, by first | rfl | exact World.drewN_drewN _ _ _⟩
        · have HP := hide hr
          have e4 : (y == 4) = false := beq_false_of_ne y4
          clear hr y4
          go_enter Try.func28, Try.ntmps28
          go_wp2
          go_quiet (fail)
          go_wp2
          go_ret
          exact ⟨ret_int HP.out.symm, _, by first | rfl | exact World.drewN_drewN _ _ _⟩
        · have HP := hide hr
          clear hr
          go_enter Try.func28, Try.ntmps28
          go_wp2
          go_quiet (fail)
          go_wp2
          go_ret
          exact ⟨ret_int HP.out.symm, _, by first | rfl | exact World.drewN_drewN _ _ _⟩
        · have HP := hide hr
          clear hr y4
          go_enter Try.func28, Try.ntmps28
          go_wp2
          go_quiet (fail)
          go_wp2
          go_ret
          exact ⟨ret_int HP.out.symm, _, by first | rfl | exact World.drewN_drewN _ _ _⟩
        · have HP := hide hr
          have e4 : (y == 4) = false := beq_false_of_ne y4
          have e7 : (y == 7) = false := beq_false_of_ne y7
          clear hr y4 y7
          go_enter Try.func28, Try.ntmps28
          go_wp2
          go_quiet (fail)
          go_wp2
          go_ret
          exact ⟨ret_int HP.out.symm, _, by first | rfl | exact World.drewN_drewN _ _ _⟩
        · have HP := hide hr
          have e5 : (x == 5) = false := beq_false_of_ne x5
          have e8 : (x == 8) = false := beq_false_of_ne x8
          clear hr x5 x8
          go_enter Try.func28, Try.ntmps28
          go_wp2
          go_quiet (fail)
          go_wp2
          go_ret
          exact ⟨ret_int HP.out.symm, _, by first | rfl | exact World.drewN_drewN _ _ _⟩
      · rw [if_neg (fun h => hpy h.1)] at hp
        have HP := hide hp
        have hE : (p == y) = false := beq_false_of_ne hpy
        clear hp hpy
        go_enter Try.func28, Try.ntmps28
        go_wp2
        go_quiet (fail)
        go_wp2
        go_ret
        exact ⟨ret_int HP.out.symm, _, by first | rfl | exact World.drewN_drewN _ _ _⟩
    · have hp := We.four_last (s := s) (t := c) (i := m + 1) (by omega)
      have d2 : decide ((m : Int) + 1 + 1 < (n : Int)) = false := decide_eq_false (by omega)
      have hin2 : ¬ (m : Int) + 1 + 1 < (n : Int) := by omega
      obtain ⟨R, hR⟩ : ∃ R, We.pv 4 s c (m + 1 + 1) = R := ⟨_, rfl⟩
      rw [hR] at hp ⊢
      have HP := hide hp
      clear h e1 hR hp hc hcl
      generalize c.getD (m + 1) 0 = x at *
      go_enter Try.func28, Try.ntmps28
      go_wp2
      go_quiet (fail)
      go_wp2
      go_ret
      exact ⟨ret_int HP.out.symm, _, by first | rfl | exact World.drewN_drewN _ _ _⟩
theorem rone_any {r : Nat} {s : Int} {c : List Int} {w : World} {ao : Option Addr} {n cap : Nat} {a1 : Option Addr} {c1 i : Nat} (h1 : 1 ≤ r) (h7 : r ≤ 7) (h : On r s c w ao n cap a1 c1 i) :
    Calls Try.prog 28 #[.slice ao n cap, .slice a1 i c1, .int .i64 s, .int .i64 (r : Int), .int .i64 (i : Int)] w fun e w' => e = .returned (.int .i64 (We.pv r s c (i + 1))) ∧ ∃ k, w' = w.drewN k := by
  have hr : r = 1 ∨ r = 2 ∨ r = 3 ∨ r = 4 ∨ r = 5 ∨ r = 6 ∨ r = 7 := by omega
  rcases hr with rfl | rfl | rfl | rfl | rfl | rfl | rfl
  · exact rone1 h
  · exact rone2 h
  · exact rone3 h
  · exact rone4 h
  · exact rone5 h
  · exact rone6 h
  · exact rone7 h
end Go.Proofs.Ytkajiagflcflpaa
