/- The document's Places, by contract: the whole. -/
import Derived.Test.YtmcbldllbnjipaaRq16
namespace Go.Proofs.Ytmcbldllbnjipaa
open Go.RowKit
set_option linter.unusedVariables false
set_option maxHeartbeats 1600000
set_option maxRecDepth 100000
theorem rpplaces_any (ao az : Option Addr) (n nz cap cz : Nat) (l : List Int) (Z : List (Int × Int)) (w : World) (h : Row .i64 w ao n cap l) (hz : PI w az nz cz Z) (hn : n ≤ 60) (hnz : nz ≤ 60) (P : List Int) (E : Int) (hA : QA l Z P E) :
    Calls Try.prog 15 #[.slice ao n cap, .slice az nz cz] w fun e w' => ∃ a c, e = .returned (.tuple #[.slice a P.length c, .int .i64 E]) ∧ Row .i64 w' a P.length c P ∧ KO w w' := by
  have hl := h.len
  have hzl := hz.len
  by_cases hf : Od.Fo l
  · have HO := hide (rorder_any ao n cap l w h (by omega) (Od.ON l) 0 (.inl ⟨hf, rfl, rfl⟩))
    have hor := Od.ON_orderly hf
    rw [hl] at hor
    have hle : (Od.ON l).length ≤ n := by
      have := Od.K_le l
      rw [Od.ON_len, Od.OD_len]
      omega
    have hA2 : (¬ Pk.AR Z ((Od.ON l).length : Int) nz ∧ P = [] ∧ E = 50) ∨ (Pk.AR Z ((Od.ON l).length : Int) nz ∧ P = Pk.PL (Pk.pr (Od.ON l) Z nz) n ∧ E = 0) := by
      rcases hA with ⟨h0, _⟩ | ⟨_, h1, h2, h3⟩ | ⟨_, h1, h2, h3⟩
      · exact absurd hf h0
      · exact .inl ⟨by rw [← hzl]; exact h1, h2, h3⟩
      · exact .inr ⟨by rw [← hzl]; exact h1, by rw [h2, hzl, hl], h3⟩
    obtain ⟨L, hL⟩ : ∃ L, Od.ON l = L := ⟨_, rfl⟩
    rw [hL] at HO hA2 hle hor
    obtain ⟨m, hm⟩ : ∃ m, L.length = m := ⟨_, rfl⟩
    rw [hm] at HO hA2 hle
    have HM := hide hm
    have HOR := hide hor
    have H := hide h
    have HZ := hide hz
    have HA := hide hA2
    obtain ⟨ii, hii, hy0, hy1, hy2⟩ := info_parts infoInt
    have HII : Hid (Try.prog.info? 3 = some ii) := hii
    have HY0 := hide hy0
    have HY1 := hide hy1
    have HY2 := hide hy2
    clear h hz hA hf hor hL hm hA2 hl hzl hii hy0 hy1 hy2
    go_enter Try.func15, Try.ntmps15
    go_wp2_with fail
    refine HO.out.mono ?_
    rintro e w1 ⟨a1, c1, rfl, hr1, hk1⟩
    have K1 := hide hk1
    have R1 := hide hr1
    have Z1 := hide (HZ.out.below hk1)
    clear hr1 hk1 HO HZ
    go_wp2
    go_loopw [8, 9] (fun s8 s9 W => ∃ k nq : Nat, s9 = .int .i64 (k : Int) ∧ k ≤ nz ∧ s8 = .int .i64 (Pk.enz Z k) ∧ Hid (Pk.AR Z m k) ∧ Hid (W = w1.drewN nq)) (fun _ s9 _ => nz - (intOf s9).toNat)
    case atStart => exact ⟨0, 0, rfl, Nat.zero_le _, rfl, hide (Pk.AR_zero Z m), hide rfl⟩
    case round =>
      obtain ⟨k, nq, rfl, hk, rfl, hA, hkw⟩ := hrel
      have KW := hide (show KO w1 wr from below_of_drewN ⟨_, hkw.out⟩)
      by_cases hlt : k < nz
      · have hin : (k : Int) < (nz : Int) := by omega
        obtain ⟨b, off, rfl, hb, hc⟩ := Z1.out.cells (by omega)
        have c0 := (Below.cell KW.out (by exact hb)).trans (hc k hlt).1
        have c1' := (Below.cell KW.out (by exact hb)).trans (hc k hlt).2
        have HS := hide (fun h1 h2 h3 => Pk.AR_succ (Z := Z) (m := m) hA.out h1 h2 h3)
        have HE : Hid (Pk.enz Z (k + 1) = (Z.getD k (0, 0)).2) := hide rfl
        have HN := hide (fun (q : Pk.AR Z m nz) => q k hlt)
        clear hc
        generalize (Z.getD k (0, 0)).1 = x at *
        generalize (Z.getD k (0, 0)).2 = y at *
        generalize Pk.enz Z k = en at *
        by_cases h1 : x < en
        · obtain ⟨rfl, rfl⟩ : P = [] ∧ E = 50 := by
            rcases HA.out with ⟨_, g⟩ | ⟨g, _⟩
            · exact g
            · have := HN.out g; omega
          have g1 : decide (x < en) = true := decide_eq_true h1
          clear HS HN hA HA
          go_wp2_with fail
          go_quiet (fail)
          go_wp2
          go_ret2
          exact ⟨none, 0, rfl, row_nil _ _, KO.on K1.out (KO.on KW.out (below_drewN _ _))⟩
        · have g1 : decide (x < en) = false := decide_eq_false h1
          by_cases h2 : y ≤ x
          · obtain ⟨rfl, rfl⟩ : P = [] ∧ E = 50 := by
              rcases HA.out with ⟨_, g⟩ | ⟨g, _⟩
              · exact g
              · have := HN.out g; omega
            have g2 : decide (y ≤ x) = true := decide_eq_true h2
            clear HS HN hA HA
            go_wp2_with fail
            go_quiet (fail)
            go_wp2
            go_ret2
            exact ⟨none, 0, rfl, row_nil _ _, KO.on K1.out (KO.on KW.out (below_drewN _ _))⟩
          · have g2 : decide (y ≤ x) = false := decide_eq_false h2
            by_cases h3 : (m : Int) < y
            · obtain ⟨rfl, rfl⟩ : P = [] ∧ E = 50 := by
                rcases HA.out with ⟨_, g⟩ | ⟨g, _⟩
                · exact g
                · have := HN.out g; omega
              have g3 : decide ((m : Int) < y) = true := decide_eq_true h3
              clear HS HN hA HA
              go_wp2_with fail
              go_quiet (fail)
              go_wp2
              go_ret2
              exact ⟨none, 0, rfl, row_nil _ _, KO.on K1.out (KO.on KW.out (below_drewN _ _))⟩
            · have g3 : decide ((m : Int) < y) = false := decide_eq_false h3
              have HA3 := hide (HS.out (by omega) (by omega) (by omega))
              clear HS HN hA
              go_wp2_with fail
              go_quiet (fail)
              go_wp2
              go_roundw
              case rel => exact ⟨k + 1, _, by go_num, by omega, by rw [HE.out], HA3, hide (by rw [hkw.out]; first | rfl | exact World.drewN_drewN _ _ _)⟩
              case measure => simp [intOf]; omega
      · obtain rfl : nz = k := by omega
        have hne : ¬ (nz : Int) < (nz : Int) := by omega
        obtain ⟨hP, rfl⟩ : P = Pk.PL (Pk.pr L Z nz) n ∧ E = 0 := by
          rcases HA.out with ⟨g, _⟩ | ⟨_, g⟩
          · exact absurd hA.out g
          · exact g
        have HP := hide hP
        have Z2 := hide (Z1.out.below KW.out)
        have R2 := hide (R1.out.below KW.out)
        have K2 := hide (KO.on K1.out KW.out)
        have HIN := hide (fun (W : World) (hk : KO wr W) (j : Int) => rin_any az nz cz Z j W (Z2.out.below hk))
        have HL0 := hide (fun i => Pk.PK_zero (L := L) (Z := Z) (n := nz) (i := i))
        have HL1 := hide (fun i k => Pk.PK_no (L := L) (Z := Z) (n := nz) (i := i) (k := k))
        have HL2 := hide (fun i k (hk : k < m) => Pk.PK_yes (L := L) (Z := Z) (n := nz) (i := i) (k := k) HOR.out (by rw [HM.out]; exact hk))
        have HL3 := hide (fun i => Pk.PK_end (L := L) (Z := Z) (n := nz) (i := i))
        have HL4 := hide (fun i k => Pk.PK_len (L := L) (Z := Z) (n := nz) (i := i) (k := k))
        rw [HM.out] at HL3
        clear hP hA HA hkw KW
        obtain ⟨w2, hw2⟩ : ∃ w2, w2 = wr := ⟨_, rfl⟩
        subst hw2
        go_wp2
        go_loopw [10, 11, 12] (fun s10 s11 s12 W => ∃ (v : Value) (i : Nat), v = s10 ∧ s11 = .int .i64 (i : Int) ∧ i ≤ n ∧ Hid (RG w2 (Pk.PL (Pk.pr L Z nz) i) (Pk.PL (Pk.pr L Z nz) i).length v W)) (fun _ s11 _ _ => n - (intOf s11).toNat)
        case atStart => exact ⟨_, 0, rfl, rfl, Nat.zero_le _, hide ⟨World.ownsRow_nil _ _ _ _, KO.refl _⟩⟩
        case round =>
          obtain ⟨v, i, hv, rfl, hi, hm⟩ := hrel
          subst hv
          by_cases hlt2 : i < n
          · have hin2 : (i : Int) < (n : Int) := by omega
            go_wp2
            go_loopw [10, 12] (fun s10 s12 W => ∃ (v : Value) (k : Nat), v = s10 ∧ s12 = .int .i64 (k : Int) ∧ k ≤ m ∧ Hid (RG w2 (Pk.PK L Z nz i k) (Pk.PK L Z nz i k).length v W)) (fun _ s12 _ => m - (intOf s12).toNat)
            case atStart => exact ⟨_, 0, rfl, rfl, Nat.zero_le _, hide (by rw [HL0.out]; exact hm.out)⟩
            case round =>
              clear hm
              obtain ⟨v, k, hv, rfl, hk, hm⟩ := hrel
              subst hv
              by_cases hlt3 : k < m
              · have hin3 : (k : Int) < (m : Int) := by omega
                have hm2 := hm.out
                obtain ⟨b, off, rfl, hb, hc⟩ := R2.out.cells (by omega)
                have c0 := (Below.cell hm2.bel (by exact hb)).trans (hc k (by rw [HM.out]; exact hlt3))
                have h1 := HL1.out i k
                have h2 := HL2.out i k hlt3
                have h4 := HL4.out i k
                have HI := hide (HIN.out wr hm2.bel (k : Int))
                clear hc
                generalize L.getD k 0 = x at *
                by_cases hx : x = (i : Int)
                · subst hx
                  have hxx : ((i : Int) == (i : Int)) = true := by simp
                  cases hr : Pk.hz Z nz (k : Int) with
                  | true =>
                    rw [hr] at HI
                    have HS := hide (h2 rfl hr)
                    have HBE := hide hm2.bel
                    have HBS := hide hm2.bel.size
                    have HOW := hide hm2.own
                    obtain ⟨a6, c6, hva, _⟩ := owns_form hm2.own
                    subst hva
                    clear hm hm2 h1 h2 hr
                    generalize Pk.PK L Z nz i k = Y at *
                    obtain ⟨ny, hny⟩ : ∃ ny, Y.length = ny := ⟨_, rfl⟩
                    rw [hny] at HOW h4 ⊢
                    have HNY := hide hny
                    clear hny
                    go_wp2_with fail
                    refine HI.out.mono ?_
                    rintro e w' ⟨rfl, rfl⟩
                    go_wp2_with (at_builtin; refine wpList_append_row _ rfl (.tmp 85) (.tmp 87) 22 rfl w2.heap.size 3 ii (.int .i64 0) 8 Try.underlying22 HII.out HY0.out HY1.out HY2.out rfl _ ny _ rfl (HOW.out.alloc _) .i64 _ 1 1 [(i : Int)] rfl (row_one _ wr.heap.size rfl (i : Int)) (by omega) (by omega) (by simp; have := HBS.out; omega) ?_; intro v7 w7 ho7 hb7)
                    have HM7 : Hid (RG w2 (Pk.PK L Z nz i (k + 1)) (Pk.PK L Z nz i (k + 1)).length v7 w7) := hide (by
                      have e1 : (Pk.PK L Z nz i (k + 1)).length = ny + 1 := by rw [HS.out, List.length_append, HNY.out]; rfl
                      rw [e1]
                      exact RG.snoc HBE.out hb7 ho7 HS.out)
                    clear ho7 hb7
                    go_wp2
                    go_roundw
                    case rel => exact ⟨_, k + 1, rfl, by go_num, by omega, HM7⟩
                    case measure => simp [intOf]; omega
                  | false =>
                    rw [hr] at HI
                    have HS := hide (h1 (fun g => by rw [hr] at g; cases g.2))
                    clear h1 h2 hr hm2
                    go_wp2_with fail
                    refine HI.out.mono ?_
                    rintro e w' ⟨rfl, rfl⟩
                    go_wp2
                    go_roundw
                    case rel => exact ⟨v, k + 1, rfl, by go_num, by omega, by rw [HS.out]; exact hm⟩
                    case measure => simp [intOf]; omega
                · have hxx : (x == (i : Int)) = false := beq_eq_false_iff_ne.2 hx
                  have HS := hide (h1 (fun g => hx g.1))
                  clear h1 h2 hm2 HI
                  go_wp2
                  go_roundw
                  case rel => exact ⟨v, k + 1, rfl, by go_num, by omega, by rw [HS.out]; exact hm⟩
                  case measure => simp [intOf]; omega
              · obtain rfl : m = k := by omega
                have hne3 : ¬ (m : Int) < (m : Int) := by omega
                have HE := hide (HL3.out i)
                go_wp2
                go_roundw
                case rel => exact ⟨v, i + 1, rfl, by go_num, by omega, by rw [← HE.out]; exact hm⟩
                case measure => simp [intOf]; omega
          · obtain rfl : n = i := by omega
            have hne2 : ¬ (n : Int) < (n : Int) := by omega
            have hmo := hm.out
            rw [← HP.out] at hmo
            have HO := hide hmo.own
            have KB := hide hmo.bel
            clear hm hmo
            go_wp2
            go_ret2
            obtain ⟨a, c, e1, hr⟩ := row_any HO.out
            exact ⟨a, c, by rw [e1]; rfl, hr, KO.on K2.out KB.out⟩
  · obtain ⟨rfl, rfl⟩ : P = [] ∧ E = 2 := by
      rcases hA with ⟨_, h1⟩ | ⟨h0, _⟩ | ⟨h0, _⟩
      · exact h1
      · exact absurd h0 hf
      · exact absurd h0 hf
    have HO := hide (rorder_any ao n cap l w h (by omega) [] 2 (.inr ⟨hf, rfl, rfl⟩))
    simp only [List.length_nil] at HO
    clear h hf hz hA
    go_enter Try.func15, Try.ntmps15
    go_wp2_with fail
    refine HO.out.mono ?_
    rintro e w1 ⟨a1, c1, rfl, hr1, hk1⟩
    have K1 := hide hk1
    clear hr1 hk1 HO
    go_wp2
    go_ret2
    exact ⟨none, 0, rfl, row_nil _ _, K1.out⟩
end Go.Proofs.Ytmcbldllbnjipaa
