/- The document's Partner. -/
import Derived.Test.YthohbiklnknofaaTurn
namespace Go.Proofs.Ythohbiklnknofaa
open Go.RowKit
set_option linter.unusedVariables false
set_option maxHeartbeats 1000000
set_option maxRecDepth 100000
theorem ptl_at {c : List Int} {k o : Nat} (h : k < c.length) : Iso.ptl o (c.drop k) = if Iso.st (c.getD k 0) then Iso.ptl (o + 1) (c.drop (k + 1)) + 1 else if c.getD k 0 = 23 then (if o = 0 then 0 else Iso.ptl (o - 1) (c.drop (k + 1)) + 1) else Iso.ptl o (c.drop (k + 1)) + 1 := by
  rw [Iso.drop_at c k h, Iso.ptl_cons]
theorem partner_any (ao : Option Addr) (n cap : Nat) (c : List Int) (i : Nat) (w : World) (h : Row .i64 w ao n cap c) (hn : n * 8 ≤ 140737488351232) (hi : i < n) :
    Calls Try.prog 48 #[.slice ao n cap, .int .i64 (i : Int)] w fun e w' => e = .returned (.int .i64 (Iso.partner c i : Int)) ∧ w = w' := by
  have H := hide h
  have HL := hide h.len
  have hn2 : n ≤ 17592186044416 := by omega
  obtain ⟨P, hP⟩ : ∃ P, Iso.partner c i = P := ⟨_, rfl⟩
  have HP := hide (show i + 1 + Iso.ptl 0 (c.drop (i + 1)) = P from hP)
  rw [hP]
  clear h hn hP
  go_enter Try.func48, Try.ntmps48
  go_wp2
  go_loopw [5, 6] (fun s5 s6 wr => ∃ k o : Nat, s6 = .int .i64 (k : Int) ∧ s5 = .int .i64 ((o : Int) + 1) ∧ i < k ∧ k ≤ n ∧ o ≤ k ∧ Hid (k + Iso.ptl o (c.drop k) = P) ∧ w = wr) (fun _ s6 _ => n - (intOf s6).toNat)
  case atStart => exact ⟨i + 1, 0, by go_num, by go_num, by omega, by omega, by omega, HP, rfl⟩
  case round =>
    obtain ⟨k, o, rfl, rfl, hik, hk, hok, hp, rfl⟩ := hrel
    by_cases hlt : k < n
    · have hkl : k < c.length := by rw [HL.out]; exact hlt
      obtain ⟨b, off, rfl, hbl, hc⟩ := H.out.cells (by omega)
      have ck : w.cell? ⟨b, off + k, none⟩ = some (.int .i64 (c.getD k 0)) := hc k hkl
      have hin : (k : Int) < (n : Int) := by omega
      have HT := hide (Starts_any (c.getD k 0) w)
      have HQ := hide (hp.out)
      rw [ptl_at hkl] at HQ
      generalize c.getD k 0 = x at *
      clear hc hkl hp
      cases hs : Iso.st x with
      | true =>
        have hx : (x == 23) = false := beq_false_of_ne (Iso.st_23 hs)
        rw [hs] at HT
        rw [if_pos hs] at HQ
        clear hs
        go_wp2_with (go_at_call 47; refine HT.out.mono ?_; rintro e w' ⟨rfl, rfl⟩)
        go_roundw
        case rel => exact ⟨k + 1, o + 1, by go_num, by go_num, by omega, by omega, by omega, hide (by have := HQ.out; omega), trivial⟩
        case measure => simp [intOf]; omega
      | false =>
        rw [hs] at HT
        rw [if_neg (by rw [hs]; decide)] at HQ
        clear hs
        by_cases hx : x = 23
        · have hx2 : (x == 23) = true := beq_iff_eq.2 hx
          rw [if_pos hx] at HQ
          clear hx
          rcases Nat.eq_zero_or_pos o with rfl | ho
          · rw [if_pos rfl] at HQ
            go_wp2_with (go_at_call 47; refine HT.out.mono ?_; rintro e w' ⟨rfl, rfl⟩)
            go_ret
            exact ⟨ret_int (by have := HQ.out; omega), rfl⟩
          · obtain ⟨q, rfl⟩ : ∃ q, o = q + 1 := ⟨o - 1, by omega⟩
            rw [if_neg (by omega), Nat.add_sub_cancel] at HQ
            have h0 : ((q : Int) + 1 == 0) = false := beq_false_of_ne (by omega)
            go_wp2_with (go_at_call 47; refine HT.out.mono ?_; rintro e w' ⟨rfl, rfl⟩)
            go_roundw
            case rel => exact ⟨k + 1, q, by go_num, by go_num, by omega, by omega, by omega, hide (by have := HQ.out; omega), trivial⟩
            case measure => simp [intOf]; omega
        · have hx2 : (x == 23) = false := beq_false_of_ne hx
          rw [if_neg hx] at HQ
          clear hx
          go_wp2_with (go_at_call 47; refine HT.out.mono ?_; rintro e w' ⟨rfl, rfl⟩)
          go_roundw
          case rel => exact ⟨k + 1, o, by go_num, by go_num, by omega, by omega, by omega, hide (by have := HQ.out; omega), trivial⟩
          case measure => simp [intOf]; omega
    · have hne : ¬ ((k : Int) < (n : Int)) := by omega
      have HE := hide (show P = n from by
        have h1 := hp.out
        rw [List.drop_eq_nil_of_le (by rw [HL.out]; omega), Iso.ptl] at h1
        omega)
      clear hp
      go_wp2
      go_ret
      exact ⟨ret_int (by rw [HE.out]), rfl⟩
end Go.Proofs.Ythohbiklnknofaa
