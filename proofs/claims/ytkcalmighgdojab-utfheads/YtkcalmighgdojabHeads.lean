/- The walk of the law on heads and cuts. -/
import Derived.Test.YtkcalmighgdojabWorks
import Derived.Test.YtkcalmighgdojabHeadm
namespace Go.Proofs.Ytkcalmighgdojab
open Go.RowKit
set_option linter.unusedVariables false
set_option maxHeartbeats 4000000 in
theorem UtfHeads_walk (w : World) (ao : Option Addr) (n cap : Nat) (l : List Int) (h : Row .u8 w ao n cap l) (hwf : ∀ x ∈ l, (Lit.int .u8 x).wf = true) (hsz : n * 1 ≤ 140737488351232) (m : Int) (hm : (Lit.int .i64 m).wf = true) :
    Calls Try.prog 4 #[.slice ao n cap, .int .i64 m] w fun e w' => e = .returned (.bool true) ∧ Below w.heap.size w w' := by
  have hbs := Bytes.of_wf hwf
  have hdl := Utf.dec_le l.length l (Nat.le_refl _)
  rw [h.len] at hdl
  have HR := hide h
  have HL := hide h.len
  have HBS := hide hbs
  clear hwf h hbs hm
  go_enter Try.func4, Try.ntmps4
  go_wp2_with fail
  refine (works_any _).mono ?_
  rintro e w1 ⟨rfl, hb1⟩
  have HB1 := hide hb1
  have HR1 := hide (HR.out.below hb1)
  clear hb1
  go_wp2_with fail
  by_cases hw : (Utf.dec l).2 = n
  · refine (count_yes _ _ _ _ _ HR1.out HBS.out hw).mono ?_
    rintro e w2 ⟨rfl, rfl⟩
    have hht := Utf.heads_text HBS.out (by rw [HL.out]; exact hw)
    have HCE := hide (Utf.cut_ends l.length l (Nat.le_refl _) HBS.out (by rw [HL.out]; exact hw) m.toNat)
    rw [HL.out] at HCE
    have hcb := (Utf.dec_le (l.take m.toNat).length (l.take m.toNat) (Nat.le_refl _)).1
    rw [List.length_take, HL.out] at hcb
    have HCU := hide (cut_any _ _ _ m _ _ HR1.out HBS.out)
    have HHA := hide (fun h => Utf.head_at HBS.out (c := (Utf.dec (l.take m.toNat)).2) h)
    rw [hht]
    rw [HL.out] at HHA
    generalize (Utf.dec (l.take m.toNat)).2 = c at *
    clear hht hdl hw
    go_wp2
    go_loop [7, 8] (fun t i => ∃ q : Nat, q ≤ n ∧ i = .int .i64 q ∧ t = .int .i64 (Utf.heads (l.take q))) (fun _ i => n - (intOf i).toNat)
    case atStart => exact ⟨0, Nat.zero_le _, rfl, rfl⟩
    case round =>
      obtain ⟨q, hq, rfl, rfl⟩ := hrel
      have hcp : Utf.heads (l.take q) ≤ q := Nat.le_trans List.countP_le_length (List.length_take_le _ _)
      by_cases hlt : q < n
      · have HSN := hide (Utf.heads_snoc l q (by have := HL.out; omega))
        obtain ⟨b, off, rfl, _, hc⟩ := HR1.out.cells (by omega)
        have hck := hc q (by have := HL.out; omega)
        unfold Utf.isHead at HSN
        have hxb : 0 ≤ l.getD q 0 ∧ l.getD q 0 ≤ 255 := by
          have hk : q < l.length := by have := HL.out; omega
          have e : l.getD q 0 = l[q] := by simp [List.getD, List.getElem?_eq_getElem hk]
          rw [e]; exact HBS.out _ (List.getElem_mem _)
        clear hc
        generalize l.getD q 0 = x at *
        obtain ⟨hx0, hx1⟩ := hxb
        have hqi : (q : Int) < (n : Int) := by omega
        by_cases g1 : x < 128
        · have HS2 : Hid (Utf.heads (l.take (q + 1)) = Utf.heads (l.take q) + 1) := by rw [Hid, HSN.out]; simp [g1]
          clear HSN
          generalize Utf.heads (l.take q) = hd at *
          go_wp2
          go_round
          case rel => exact ⟨q + 1, by omega, by go_num, by rw [HS2.out]; go_num⟩
          case measure => simp [intOf]; omega
        by_cases g2 : 191 < x
        · have HS2 : Hid (Utf.heads (l.take (q + 1)) = Utf.heads (l.take q) + 1) := by rw [Hid, HSN.out]; simp [g2]
          clear HSN
          generalize Utf.heads (l.take q) = hd at *
          go_wp2
          go_round
          case rel => exact ⟨q + 1, by omega, by go_num, by rw [HS2.out]; go_num⟩
          case measure => simp [intOf]; omega
        · have HS2 : Hid (Utf.heads (l.take (q + 1)) = Utf.heads (l.take q)) := by rw [Hid, HSN.out]; simp [g1, g2]
          clear HSN
          generalize Utf.heads (l.take q) = hd at *
          go_wp2
          go_round
          case rel => exact ⟨q + 1, by omega, by go_num, by rw [HS2.out]⟩
          case measure => simp [intOf]; omega
      · have ht : l.take q = l := List.take_of_length_le (by have := HL.out; omega)
        rw [ht] at hcp ⊢
        generalize Utf.heads l = hd at *
        have hne : ((hd : Int) != (hd : Int)) = false := by simp
        by_cases hcn : c = n
        · have hcm : (c : Int) ≤ m ∨ c = 0 := by omega
          clear ht
          subst hcn
          rcases hcm with hcm | hcm
          · go_wp2_with (go_at_call 8; refine HCU.out.mono ?_; rintro e w' ⟨rfl, rfl⟩)
            all_goals
              go_ret
              exact ⟨rfl, HB1.out⟩
          · subst hcm
            go_wp2_with (go_at_call 8; refine HCU.out.mono ?_; rintro e w' ⟨rfl, rfl⟩)
            go_ret
            exact ⟨rfl, HB1.out⟩
        · have hends := HCE.out.resolve_left hcn
          obtain ⟨h0, hc2, hc3⟩ := hends
          obtain ⟨k1, k2, k3⟩ := HHA.out h0
          have hcm : (c : Int) ≤ m ∨ c = 0 := by omega
          generalize (Utf.read (l.drop c)).2.toNat = s at *
          have hmn : m < (n : Int) := by omega
          have hcn' : ((c : Int) == (n : Int)) = false := by simp; omega
          obtain ⟨b, off, rfl, _, hc⟩ := HR1.out.cells (by omega)
          have HC := hide hc
          have hck := hc c (by have := HL.out; omega)
          have HK3 := hide k3
          unfold Utf.isHead at k2
          clear hc k3 h0 HCE HHA ht
          generalize l.getD c 0 = x at *
          have hx : x < 128 ∨ 191 < x := by simpa using k2
          have hz : ((0 : Int) < (c : Int) ∧ (c : Int) ≤ m) ∨ (c : Int) ≤ 0 := by omega
          clear k2 hcm
          have c1 : (0 : Int) ≤ (c : Int) := by omega
          have c2 : (c : Int) ≤ (n : Int) := by omega
          have c3 : (c : Int) < (n : Int) := by omega
          rcases hx with hx | hx
          all_goals
            rcases hz with ⟨hz, hz'⟩ | hz
          all_goals
            go_wp2_with (go_at_call 8; refine HCU.out.mono ?_; rintro e w' ⟨rfl, rfl⟩)
            go_loop [10] (fun i => ∃ j : Nat, c + 1 ≤ j ∧ j ≤ n ∧ j ≤ c + s ∧ i = .int .i64 j) (fun i => n - (intOf i).toNat)
            case atStart => exact ⟨c + 1, Nat.le_refl _, by omega, by omega, by go_num⟩
            case round =>
              obtain ⟨j, hj1, hj2, hj3, rfl⟩ := hrel
              by_cases hgo : j < n ∧ (j : Int) ≤ m
              · obtain ⟨g1, g2⟩ := hgo
                have hcj := HC.out j (by have := HL.out; omega)
                have hnh := HK3.out j (by omega) (by omega)
                unfold Utf.isHead at hnh
                generalize l.getD j 0 = y at *
                have hy : 128 ≤ y ∧ y ≤ 191 := by simp at hnh; omega
                obtain ⟨hy0, hy1⟩ := hy
                clear hnh
                have gi : (j : Int) < (n : Int) := by omega
                go_wp2
                go_round
                case rel => exact ⟨j + 1, by omega, by omega, by omega, by go_num⟩
                case measure => simp [intOf]; omega
              · by_cases g1 : j < n
                · have g2 : ¬ (j : Int) ≤ m := by omega
                  clear hgo
                  go_wp2
                  go_ret
                  exact ⟨rfl, HB1.out⟩
                · clear hgo
                  go_wp2
                  go_ret
                  exact ⟨rfl, HB1.out⟩
  · refine (count_no _ _ _ _ _ HR1.out HBS.out (by omega)).mono ?_
    rintro e w2 ⟨rfl, rfl⟩
    have HCU := hide (cut_any _ _ _ (n : Int) _ _ HR1.out HBS.out)
    rw [Int.toNat_natCast, List.take_of_length_le (by have := HL.out; omega)] at HCU
    have hlt : (Utf.dec l).2 < n := by omega
    generalize (Utf.dec l).2 = c at *
    go_wp2_with (go_at_call 8; refine HCU.out.mono ?_; rintro e w' ⟨rfl, rfl⟩)
    go_ret
    exact ⟨rfl, HB1.out⟩
end Go.Proofs.Ytkcalmighgdojab
