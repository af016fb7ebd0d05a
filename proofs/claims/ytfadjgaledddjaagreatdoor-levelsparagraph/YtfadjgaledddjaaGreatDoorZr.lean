import Derived.Test.YtfadjgaledddjaaGreatDoorZb
/- The document's Partner. -/
namespace Go.Proofs.YtfadjgaledddjaaGreatDoor
open Go.RowKit
set_option linter.unusedVariables false
set_option maxHeartbeats 1000000
set_option maxRecDepth 100000
theorem ptl_at {c : List Int} {k o : Nat} (h : k < c.length) : Iso.ptl o (c.drop k) = if Iso.st (c.getD k 0) then Iso.ptl (o + 1) (c.drop (k + 1)) + 1 else if c.getD k 0 = 23 then (if o = 0 then 0 else Iso.ptl (o - 1) (c.drop (k + 1)) + 1) else Iso.ptl o (c.drop (k + 1)) + 1 := by
  rw [Iso.drop_at c k h, Iso.ptl_cons]
theorem partner_any (ao : Option Addr) (n cap : Nat) (c : List Int) (i : Nat) (w : World) (h : Row .i64 w ao n cap c) (hn : n * 8 ≤ 140737488351232) (hi : i < n) :
    Calls Tryz.prog 36 #[.slice ao n cap, .int .i64 (i : Int)] w fun e w' => e = .returned (.int .i64 (Iso.partner c i : Int)) ∧ w = w' := by
  have H := hide h
  have HL := hide h.len
  have hn2 : n ≤ 17592186044416 := by omega
  obtain ⟨P, hP⟩ : ∃ P, Iso.partner c i = P := ⟨_, rfl⟩
  have HP := hide (show i + 1 + Iso.ptl 0 (c.drop (i + 1)) = P from hP)
  rw [hP]
  clear h hn hP
  go_enter Tryz.func36, Tryz.ntmps36
  go_wp2
  go_loopw [5, 6] (fun s5 s6 wr => ∃ k o : Nat, s6 = .int .i64 (k : Int) ∧ s5 = .int .i64 ((o : Int) + 1) ∧ i < k ∧ k ≤ n ∧ o ≤ k ∧ Hid (k + Iso.ptl o (c.drop k) = P) ∧ w = wr) (fun _ s6 _ => n - (intOf s6).toNat)
  case atStart => exact ⟨i + 1, 0, by go_num, by go_num, by omega, by omega, by omega, HP, rfl⟩
  case round =>
    obtain ⟨k, o, rfl, rfl, hik, hk, hok, hp, rfl⟩ := hrel
    by_cases hlt : k < n
    · have hkl : k < c.length := by rw [HL.out]; exact hlt
      obtain ⟨b, off, rfl, hbl, hc⟩ := H.out.cells (by omega)
      have ck : w.cell? ⟨b, off + k, none⟩ = some (.int .i64 (c.getD k 0)) := hc k hkl
      have hin : (k : Int) < (n : Int) := by omega
      have HT := hide (Starts_any (c.getD k 0) w)
      have HQ := hide (hp.out)
      rw [ptl_at hkl] at HQ
      generalize c.getD k 0 = x at *
      clear hc hkl hp
      cases hs : Iso.st x with
      | true =>
        have hx : (x == 23) = false := beq_false_of_ne (Iso.st_23 hs)
        rw [hs] at HT
        rw [if_pos hs] at HQ
        clear hs
        go_wp2_with (go_at_call 35; refine HT.out.mono ?_; rintro e w' ⟨rfl, rfl⟩)
        go_roundw
        case rel => exact ⟨k + 1, o + 1, by go_num, by go_num, by omega, by omega, by omega, hide (by have := HQ.out; omega), trivial⟩
        case measure => simp [intOf]; omega
      | false =>
        rw [hs] at HT
        rw [if_neg (by rw [hs]; decide)] at HQ
        clear hs
        by_cases hx : x = 23
        · have hx2 : (x == 23) = true := beq_iff_eq.2 hx
          rw [if_pos hx] at HQ
          clear hx
          rcases Nat.eq_zero_or_pos o with rfl | ho
          · rw [if_pos rfl] at HQ
            go_wp2_with (go_at_call 35; refine HT.out.mono ?_; rintro e w' ⟨rfl, rfl⟩)
            go_ret
            exact ⟨ret_int (by have := HQ.out; omega), rfl⟩
          · obtain ⟨q, rfl⟩ : ∃ q, o = q + 1 := ⟨o - 1, by omega⟩
            rw [if_neg (by omega), Nat.add_sub_cancel] at HQ
            have h0 : ((q : Int) + 1 == 0) = false := beq_false_of_ne (by omega)
            go_wp2_with (go_at_call 35; refine HT.out.mono ?_; rintro e w' ⟨rfl, rfl⟩)
            go_roundw
            case rel => exact ⟨k + 1, q, by go_num, by go_num, by omega, by omega, by omega, hide (by have := HQ.out; omega), trivial⟩
            case measure => simp [intOf]; omega
        · have hx2 : (x == 23) = false := beq_false_of_ne hx
          rw [if_neg hx] at HQ
          clear hx
          go_wp2_with (go_at_call 35; refine HT.out.mono ?_; rintro e w' ⟨rfl, rfl⟩)
          go_roundw
          case rel => exact ⟨k + 1, o, by go_num, by go_num, by omega, by omega, by omega, hide (by have := HQ.out; omega), trivial⟩
          case measure => simp [intOf]; omega
    · have hne : ¬ ((k : Int) < (n : Int)) := by omega
      have HE := hide (show P = n from by
        have h1 := hp.out
        rw [List.drop_eq_nil_of_le (by rw [HL.out]; omega), Iso.ptl] at h1
        omega)
      clear hp
      go_wp2
      go_ret
      exact ⟨ret_int (by rw [HE.out]), rfl⟩
end Go.Proofs.YtfadjgaledddjaaGreatDoor

/- The document's Base. -/
namespace Go.Proofs.YtfadjgaledddjaaGreatDoor
open Go.RowKit
set_option linter.unusedVariables false
set_option maxHeartbeats 1000000
set_option maxRecDepth 100000
theorem rbase_bad (ao : Option Addr) (n cap : Nat) (fr to : Int) (w : World) (hr : fr < 0 ∨ (n : Int) < to ∨ to < fr) :
    Calls Tryz.prog 22 #[.slice ao n cap, .int .i64 fr, .int .i64 to] w fun e w' => e = .returned (.tuple #[.int .i64 0, .int .i64 4]) ∧ w = w' := by
  have hr2 : fr < 0 ∨ (¬ fr < 0 ∧ (n : Int) < to) ∨ (¬ fr < 0 ∧ ¬ (n : Int) < to ∧ to < fr) := by omega
  clear hr
  rcases hr2 with h1 | ⟨h1, h2⟩ | ⟨h1, h2, h3⟩
  all_goals
    go_enter Tryz.func22, Tryz.ntmps22
    go_wp2
    go_ret2
    exact ⟨rfl, rfl⟩
theorem rbase_ok (ao : Option Addr) (n cap : Nat) (c : List Int) (f t : Nat) (w : World) (h : Row .i64 w ao n cap c) (hn : n * 8 ≤ 140737488351232) (hf : f ≤ t) (ht : t ≤ n) :
    Calls Tryz.prog 22 #[.slice ao n cap, .int .i64 (f : Int), .int .i64 (t : Int)] w fun e w' => e = .returned (.tuple #[.int .i64 (Iso.bso 0 ((c.take t).drop f)), .int .i64 0]) ∧ w = w' := by
  have hR2 := (h.take ht).drop hf
  obtain ⟨ii, hii, hy0, hy1, hy2⟩ := info_parts infoInt
  have hle := h.le
  have hsl := fun w' => run_mid Tryz.underlying24 hii cellsInt ao n cap f t hf (by omega) w'
  obtain ⟨seg, hseg⟩ : ∃ seg, (c.take t).drop f = seg := ⟨_, rfl⟩
  obtain ⟨m, hm⟩ : ∃ m, t - f = m := ⟨_, rfl⟩
  rw [hseg, hm] at hR2
  rw [hm] at hsl
  rw [hseg]
  obtain ⟨bo, hbo⟩ : ∃ bo, tl ao cap f = bo := ⟨_, rfl⟩
  obtain ⟨c2, hc2⟩ : ∃ c2, cap - f = c2 := ⟨_, rfl⟩
  rw [hbo, hc2] at hR2 hsl
  obtain ⟨R, hR⟩ : ∃ R, Iso.bso 0 seg = R := ⟨_, rfl⟩
  have HR := hide (show Iso.bso 0 (seg.drop 0) = R from hR)
  rw [hR]
  have H := hide hR2
  have HL := hide hR2.len
  have hn2 : m ≤ 17592186044416 := by omega
  have HPA := hide (fun (i : Nat) (hi : i < m) => partner_any bo m c2 seg i w hR2 (by omega) hi)
  have d1 : decide ((f : Int) < 0) = false := decide_eq_false (by omega)
  have d2 : decide ((n : Int) < (t : Int)) = false := decide_eq_false (by omega)
  have d3 : decide ((t : Int) < (f : Int)) = false := decide_eq_false (by omega)
  have d2n : decide (n < t) = false := decide_eq_false (by omega)
  have d3n : decide (t < f) = false := decide_eq_false (by omega)
  clear h hn hseg hR hm hbo hc2 hR2 hii hy0 hy1 hy2 hle
  go_enter Tryz.func22, Tryz.ntmps22
  go_wp2
  clear hsl
  go_loopw [9] (fun s9 wr => ∃ i : Nat, s9 = .int .i64 (i : Int) ∧ i ≤ m ∧ Hid (Iso.bso 0 (seg.drop i) = R) ∧ w = wr) (fun s9 _ => m - (intOf s9).toNat)
  case atStart => exact ⟨0, rfl, Nat.zero_le _, HR, rfl⟩
  case round =>
    obtain ⟨i, rfl, hi, hb, rfl⟩ := hrel
    by_cases hlt : i < m
    · have hil : i < seg.length := by rw [HL.out]; exact hlt
      obtain ⟨b, off, rfl, hbl, hc⟩ := H.out.cells (by omega)
      have ck : w.cell? ⟨b, off + i, none⟩ = some (.int .i64 (seg.getD i 0)) := hc i hil
      have hin : (i : Int) < (m : Int) := by omega
      have HB1 := hide (bs_one hil)
      have HB2 := hide (bs_two hil)
      have HB3 := hide (bs_next (o := 0) hil)
      have HB4 := hide (Iso.bso_init seg i hil)
      have HT := hide (Starts_any (seg.getD i 0) w)
      rw [hb.out] at HB1 HB2 HB3 HB4
      generalize seg.getD i 0 = x at *
      clear hc
      cases hs : Iso.st x with
      | true =>
        rw [hs] at HT
        have HE := hide (HB4.out hs)
        have HP := hide (HPA.out i hlt)
        have hp1 := Iso.partner_gt seg i
        have hp2 := Iso.partner_le seg i hil
        rw [HL.out] at hp2
        generalize Iso.partner seg i = q at *
        clear HB1 HB2 HB3 HB4 hs hil
        go_wp2_with (first
          | (go_at_call 35; refine HT.out.mono ?_; rintro e w' ⟨rfl, rfl⟩)
          | (go_at_call 36; refine HP.out.mono ?_; rintro e w' ⟨rfl, rfl⟩))
        go_roundw
        case rel => exact ⟨q, by go_num, by omega, hide HE.out.symm, trivial⟩
        case measure => simp [intOf]; omega
      | false =>
        rw [hs] at HT
        by_cases hx1 : x = 1
        · have HE := hide (HB1.out hx1)
          clear HB1 HB2 HB3 HB4 hs hil
          subst hx1
          go_wp2_with (go_at_call 35; refine HT.out.mono ?_; rintro e w' ⟨rfl, rfl⟩)
          go_ret2
          exact ⟨by rw [HE.out]; rfl, rfl⟩
        · by_cases hx2 : x = 2
          · have HE := hide (HB2.out (.inl hx2))
            clear HB1 HB2 HB3 HB4 hs hil
            subst hx2
            go_wp2_with (go_at_call 35; refine HT.out.mono ?_; rintro e w' ⟨rfl, rfl⟩)
            go_ret2
            exact ⟨by rw [HE.out]; rfl, rfl⟩
          · by_cases hx3 : x = 3
            · have HE := hide (HB2.out (.inr hx3))
              clear HB1 HB2 HB3 HB4 hs hil
              subst hx3
              go_wp2_with (go_at_call 35; refine HT.out.mono ?_; rintro e w' ⟨rfl, rfl⟩)
              go_ret2
              exact ⟨by rw [HE.out]; rfl, rfl⟩
            · have HE := hide (HB3.out fun _ => ⟨hx1, hx2, hx3⟩)
              have HF := hide (show Iso.bso 0 (seg.drop (i + 1)) = R from by rw [HE.out, nx_zero (by rw [hs]; decide)])
              have q1 : (x == 1) = false := beq_false_of_ne hx1
              have q2 : (x == 2) = false := beq_false_of_ne hx2
              have q3 : (x == 3) = false := beq_false_of_ne hx3
              clear HB1 HB2 HB3 HB4 hs hil HE hx1 hx2 hx3
              go_wp2_with (go_at_call 35; refine HT.out.mono ?_; rintro e w' ⟨rfl, rfl⟩)
              go_roundw
              case rel => exact ⟨i + 1, by go_num, by omega, HF, trivial⟩
              case measure => simp [intOf]; omega
    · have hne : ¬ ((i : Int) < (m : Int)) := by omega
      have HE := hide (show R = 0 from by rw [← hb.out]; exact bs_end _ _ _ (by rw [HL.out]; omega))
      clear hb
      go_wp2
      go_ret2
      exact ⟨by rw [HE.out]; rfl, rfl⟩
end Go.Proofs.YtfadjgaledddjaaGreatDoor
