/- Resolve. -/
import Derived.Test.YtbpjacalnipkgaaNq
namespace Go.Proofs.Ytbpjacalnipkgaa
open Go.RowKit
set_option linter.unusedVariables false
set_option maxHeartbeats 1000000
set_option maxRecDepth 100000
def WF (t : List Int) : Prop := ∀ x ∈ t, (Lit.int .i64 x).wf = true
theorem WF.at {t : List Int} (h : WF t) (i : Nat) : (Lit.int .i64 (t.getD i 0)).wf = true := by
  by_cases hi : i < t.length
  · rw [show t.getD i 0 = t[i] from by simp [List.getD, List.getElem?_eq_getElem hi]]
    exact h _ (List.getElem_mem _)
  · rw [show t.getD i 0 = 0 from by simp [List.getD, List.getElem?_eq_none (Nat.not_lt.1 hi)]]
    decide
theorem ups_wf {t : List Int} {n : Nat} (h : WF t) (hl : t.length = n) : ∀ x ∈ Ne.ups t, x.1 < n ∧ (Lit.int .i64 x.2).wf = true := by
  intro x hx
  unfold Ne.ups at hx
  obtain ⟨k, hk, rfl⟩ := List.mem_map.1 hx
  have := List.mem_range.1 hk
  exact ⟨by omega, h.at k⟩
theorem downs_wf {t : List Int} {n : Nat} (h : WF t) (hl : t.length = n) : ∀ x ∈ Ne.downs t, x.1 < n ∧ (Lit.int .i64 x.2).wf = true := by
  intro x hx
  unfold Ne.downs at hx
  obtain ⟨k, hk, rfl⟩ := List.mem_map.1 hx
  have := List.mem_range.1 hk
  exact ⟨by show t.length - 1 - k < n; omega, h.at _⟩
theorem KO.new {w w' : World} (h : KO w w') (v : Value) (t : TypeId) {X : World} (hX : KO (w'.alloc (.cells #[v] t)) X) : X.cell? ⟨w'.heap.size, 0, none⟩ = some v := by
  have h1 := Boxed.new w' t v
  have h2 : X.heap[w'.heap.size]? = some (.cells #[v] t (0, 0)) := (Below.block hX _ (by simp)).trans h1
  simp [World.cell?, h2]
/-- nearest, onward. -/
theorem near_up (ao : Option Addr) (n cap mp : Nat) (s : Int) (t : List Int) (w : World) (h : Row .i64 w ao n cap t) (hf : WF t) (hn : n * 8 ≤ 140737488351232) (hm : SM w mp) :
    Calls Try.prog 21 #[.func (.func 29) #[] #[.pointer (some ⟨w.heap.size, 0, none⟩)], .int .i64 (n : Int), .map (some mp), .int .i64 s] (w.alloc (.cells #[.slice ao n cap] 22)) fun e w' =>
      ∃ g, e = .returned (.slice (some ⟨g, 0, none⟩) n n) ∧ Row .i64 w' (some ⟨g, 0, none⟩) n n (Ne.AH t s) ∧ KO w w' := by
  have hka : KO w (w.alloc (.cells #[.slice ao n cap] 22)) := KO.alloc (KO.refl _) _
  refine (nearest_any _ _ (enters_of Try.func29 (by kernel_rfl) rfl) (Ne.ups t) _ (all1_seq w.heap.size ao n cap t (by omega)) n mp s _ (fun X hX => ⟨KO.new (KO.refl w) _ _ hX, h.below (KO.on hka hX)⟩) hn (ups_wf hf h.len) (hm.below hka)).mono ?_
  rintro e w' ⟨g, rfl, hr, hk⟩
  refine ⟨g, rfl, ?_, KO.on hka hk⟩
  rw [← h.len, Ne.nr_all_ups] at hr
  rw [← h.len]; exact hr
/-- nearest, backward. -/
theorem near_down (ao : Option Addr) (n cap mp : Nat) (s : Int) (t : List Int) (w : World) (h : Row .i64 w ao n cap t) (hf : WF t) (hn : n * 8 ≤ 140737488351232) (hm : SM w mp) :
    Calls Try.prog 21 #[.func (.func 30) #[] #[.pointer (some ⟨w.heap.size, 0, none⟩)], .int .i64 (n : Int), .map (some mp), .int .i64 s] (w.alloc (.cells #[.slice ao n cap] 22)) fun e w' =>
      ∃ g, e = .returned (.slice (some ⟨g, 0, none⟩) n n) ∧ Row .i64 w' (some ⟨g, 0, none⟩) n n (Ne.BH t s) ∧ KO w w' := by
  have hka : KO w (w.alloc (.cells #[.slice ao n cap] 22)) := KO.alloc (KO.refl _) _
  refine (nearest_any _ _ (enters_of Try.func30 (by kernel_rfl) rfl) (Ne.downs t) _ (back1_seq w.heap.size ao n cap t (by omega)) n mp s _ (fun X hX => ⟨KO.new (KO.refl w) _ _ hX, h.below (KO.on hka hX)⟩) hn (downs_wf hf h.len) (hm.below hka)).mono ?_
  rintro e w' ⟨g, rfl, hr, hk⟩
  refine ⟨g, rfl, ?_, KO.on hka hk⟩
  rw [← h.len, Ne.nr_all_downs] at hr
  rw [← h.len]; exact hr
theorem good_cases (lv so eo : Int) : (Ne.Good lv so eo ∧ decide (Ne.Lev lv) = true ∧ decide (Sd so) = true ∧ decide (Sd eo) = true) ∨ (¬ Ne.Good lv so eo ∧ (decide (Ne.Lev lv) = false ∨ (decide (Ne.Lev lv) = true ∧ decide (Sd so) = false) ∨ (decide (Ne.Lev lv) = true ∧ decide (Sd so) = true ∧ decide (Sd eo) = false))) := by
  by_cases h1 : Ne.Lev lv
  · by_cases h2 : Sd so
    · by_cases h3 : Sd eo
      · exact .inl ⟨⟨h1.1, h1.2, h2, h3⟩, decide_eq_true h1, decide_eq_true h2, decide_eq_true h3⟩
      · exact .inr ⟨fun h => h3 h.2.2.2, .inr (.inr ⟨decide_eq_true h1, decide_eq_true h2, decide_eq_false h3⟩)⟩
    · exact .inr ⟨fun h => h2 h.2.2.1, .inr (.inl ⟨decide_eq_true h1, decide_eq_false h2⟩)⟩
  · exact .inr ⟨fun h => h1 ⟨h.1, h.2.1⟩, .inl (decide_eq_false h1)⟩
theorem resolve_bad (ao : Option Addr) (n cap : Nat) (lv so eo : Int) (w : World) (hb : ¬ Ne.Good lv so eo) :
    Calls Try.prog 10 #[.slice ao n cap, .int .i64 lv, .int .i64 so, .int .i64 eo] w fun e w' => e = .returned (.tuple #[.slice none 0 0, .int .i64 2]) ∧ w = w' := by
  have hc := (good_cases lv so eo).resolve_left (fun h => hb h.1)
  have HL := hide (fun w' => isLevel_any lv w')
  have HS := hide (fun w' => isSide_any so w')
  have HE := hide (fun w' => isSide_any eo w')
  replace hc := hc.2
  clear hb
  rcases hc with h1 | ⟨h1, h2⟩ | ⟨h1, h2, h3⟩
  · rw [h1] at HL
    clear h1
    go_enter Try.func10, Try.ntmps10
    go_wp2_with (go_at_call 16; refine (HL.out _).mono ?_; rintro e w' ⟨rfl, rfl⟩)
    go_ret2
    exact ⟨rfl, rfl⟩
  · rw [h1] at HL
    rw [h2] at HS
    clear h1 h2
    go_enter Try.func10, Try.ntmps10
    go_wp2_with (first | (go_at_call 16; refine (HL.out _).mono ?_; rintro e w' ⟨rfl, rfl⟩) | (go_at_call 17; refine (HS.out _).mono ?_; rintro e w' ⟨rfl, rfl⟩))
    go_ret2
    exact ⟨rfl, rfl⟩
  · rw [h1] at HL
    rw [h2] at HS
    rw [h3] at HE
    clear h1 h2 h3
    go_enter Try.func10, Try.ntmps10
    go_wp2_with fail
    refine (HL.out _).mono ?_
    rintro e w' ⟨rfl, rfl⟩
    go_wp2_with fail
    refine (HS.out _).mono ?_
    rintro e w' ⟨rfl, rfl⟩
    go_wp2_with fail
    refine (HE.out _).mono ?_
    rintro e w' ⟨rfl, rfl⟩
    go_wp2
    go_ret2
    exact ⟨rfl, rfl⟩
theorem may_tests (x : Int) : (Ne.May x ∧ (Ne.sd x != 0) = true) ∨ (Ne.May x ∧ (Ne.sd x != 0) = false ∧ Ne.neu x = true) ∨ (¬ Ne.May x ∧ (Ne.sd x != 0) = false ∧ Ne.neu x = false) := by
  unfold Ne.May
  by_cases h : Ne.sd x = 0
  · rw [h]
    cases hn : Ne.neu x with
    | true => exact .inr (.inl ⟨.inr rfl, rfl, rfl⟩)
    | false => exact .inr (.inr ⟨by simp, rfl, rfl⟩)
  · exact .inl ⟨.inl h, bne_iff_ne.2 h⟩
theorem resolve_form (ao : Option Addr) (n cap : Nat) (lv so eo : Int) (t : List Int) (w : World) (h : Row .i64 w ao n cap t) (hf : WF t) (hn : n * 8 ≤ 140737488351232) (hg : Ne.Good lv so eo) (ho : ¬ Ne.Ok t) :
    Calls Try.prog 10 #[.slice ao n cap, .int .i64 lv, .int .i64 so, .int .i64 eo] w fun e w' => e = .returned (.tuple #[.slice none 0 0, .int .i64 50]) ∧ KO w w' := by
  obtain ⟨_, h1, h2, h3⟩ := (good_cases lv so eo).resolve_right (fun h => h.1 hg)
  have HL := hide (fun w' => isLevel_any lv w')
  have HS := hide (fun w' => isSide_any so w')
  have HE := hide (fun w' => isSide_any eo w')
  rw [h1] at HL
  rw [h2] at HS
  rw [h3] at HE
  have hn2 : n ≤ 17592186044416 := by omega
  have HM := hide (sides_any w)
  have H := hide h
  have HLEN := hide h.len
  have HO := hide ho
  have HF := hide hf
  clear h1 h2 h3 hg h ho hn hf
  go_enter Try.func10, Try.ntmps10
  go_wp2_with fail
  refine (HL.out _).mono ?_
  rintro e w' ⟨rfl, rfl⟩
  go_wp2_with fail
  refine (HS.out _).mono ?_
  rintro e w' ⟨rfl, rfl⟩
  go_wp2_with fail
  refine (HE.out _).mono ?_
  rintro e w' ⟨rfl, rfl⟩
  go_wp2_with fail
  refine HM.out.mono ?_
  rintro e w1 ⟨rfl, hm, hk⟩
  have HSM := hide hm
  have HK := hide hk
  clear hm hk HM HL HS HE
  go_wp2
  go_loopw [34] (fun v wr => ∃ k : Nat, v = .int .i64 (k : Int) ∧ k ≤ n ∧ Hid (∀ i, i < k → Ne.May (t.getD i 0)) ∧ w1 = wr) (fun v _ => n - (intOf v).toNat)
  case atStart => exact ⟨0, rfl, Nat.zero_le _, hide (fun i hi => by omega), rfl⟩
  case round =>
    obtain ⟨k, rfl, hk, hall, rfl⟩ := hrel
    by_cases hlt : k < n
    · obtain ⟨b, off, rfl, hbl, hc⟩ := (H.out.below HK.out).cells (by omega)
      have ck := hc k (by rw [HLEN.out]; exact hlt)
      have hin : (k : Int) < (n : Int) := by omega
      have HH := hide (has_any w.heap.size (t.getD k 0) (HF.out.at k) w1 HSM.out)
      have HNE := hide (fun w' => isNeutral_any (t.getD k 0) w')
      have HM := hide (meas_n0 n k hlt)
      have hcs := may_tests (t.getD k 0)
      have HST := hide (fun (hm : Ne.May (t.getD k 0)) (i : Nat) (hi : i < k + 1) => (show Ne.May (t.getD i 0) from by
        by_cases e : i = k
        · subst e; exact hm
        · exact hall.out i (by omega)))
      generalize t.getD k 0 = x at *
      clear hc hall
      rcases hcs with ⟨hm, e1⟩ | ⟨hm, e1, e2⟩ | ⟨hm, e1, e2⟩
      · have HA := hide (HST.out hm)
        rw [e1] at HH
        clear e1 hm HST
        go_wp2_with (go_at_call 19; refine HH.out.mono ?_; rintro e w' ⟨rfl, rfl⟩)
        go_roundw
        case rel => exact ⟨k + 1, by go_num, by omega, HA, trivial⟩
        case measure => exact HM.out
      · have HA := hide (HST.out hm)
        rw [e1] at HH
        rw [e2] at HNE
        clear e1 e2 hm HST
        go_wp2_with (first | (go_at_call 19; refine HH.out.mono ?_; rintro e w' ⟨rfl, rfl⟩) | (go_at_call 20; refine (HNE.out _).mono ?_; rintro e w' ⟨rfl, rfl⟩))
        go_roundw
        case rel => exact ⟨k + 1, by go_num, by omega, HA, trivial⟩
        case measure => exact HM.out
      · rw [e1] at HH
        rw [e2] at HNE
        clear e1 e2 hm HST
        go_wp2_with (first | (go_at_call 19; refine HH.out.mono ?_; rintro e w' ⟨rfl, rfl⟩) | (go_at_call 20; refine (HNE.out _).mono ?_; rintro e w' ⟨rfl, rfl⟩))
        go_ret2
        exact ⟨rfl, HK.out⟩
    · obtain rfl : k = n := by omega
      exact absurd (fun i hi => hall.out i (by rw [HLEN.out] at hi; exact hi)) HO.out
theorem sd_row {t : List Int} {lv so eo : Int} {k : Nat} (h : Ne.sd (t.getD k 0) ≠ 0) : Ne.r1 t lv so eo k = t.getD k 0 := by unfold Ne.r1; rw [if_neg h]
theorem resolve_ok (ao : Option Addr) (n cap : Nat) (lv so eo : Int) (t : List Int) (w : World) (h : Row .i64 w ao n cap t) (hf : WF t) (hn : n * 8 ≤ 140737488351232) (hg : Ne.Good lv so eo) (ho : Ne.Ok t) :
    Calls Try.prog 10 #[.slice ao n cap, .int .i64 lv, .int .i64 so, .int .i64 eo] w fun e w' => ∃ g, e = .returned (.tuple #[.slice (some ⟨g, 0, none⟩) n n, .int .i64 0]) ∧ Row .i64 w' (some ⟨g, 0, none⟩) n n (Ne.RS t lv so eo) ∧ KO w w' := by
  obtain ⟨_, h1, h2, h3⟩ := (good_cases lv so eo).resolve_right (fun h => h.1 hg)
  have HL := hide (fun w' => isLevel_any lv w')
  have HS := hide (fun w' => isSide_any so w')
  have HE := hide (fun w' => isSide_any eo w')
  rw [h1] at HL
  rw [h2] at HS
  rw [h3] at HE
  have hn2 : n ≤ 17592186044416 := by omega
  have HM := hide (sides_any w)
  have H := hide h
  have HLEN := hide h.len
  have HO := hide ho
  have HF := hide hf
  have HNN := hide hn
  have HLS := hide (fun w' => levelSide_any lv hg.1 w')
  obtain ⟨cur, hcl, hmk⟩ := made_ints n hn
  have HCL := hide hcl
  have HMK := hide hmk
  clear h1 h2 h3 hg h ho hn hf hcl hmk
  go_enter Try.func10, Try.ntmps10
  go_wp2_with fail
  refine (HL.out _).mono ?_
  rintro e w' ⟨rfl, rfl⟩
  go_wp2_with fail
  refine (HS.out _).mono ?_
  rintro e w' ⟨rfl, rfl⟩
  go_wp2_with fail
  refine (HE.out _).mono ?_
  rintro e w' ⟨rfl, rfl⟩
  go_wp2_with fail
  refine HM.out.mono ?_
  rintro e w1 ⟨rfl, hm, hk⟩
  have HSM := hide hm
  have HK := hide hk
  clear hm hk HM HL HS HE
  go_wp2
  go_loopw [34] (fun v wr => ∃ k : Nat, v = .int .i64 (k : Int) ∧ k ≤ n ∧ w1 = wr) (fun v _ => n - (intOf v).toNat)
  case atStart => exact ⟨0, rfl, Nat.zero_le _, rfl⟩
  case round =>
    obtain ⟨k, rfl, hk, rfl⟩ := hrel
    by_cases hlt : k < n
    · obtain ⟨b, off, rfl, hbl, hc⟩ := (H.out.below HK.out).cells (by omega)
      have ck := hc k (by rw [HLEN.out]; exact hlt)
      have hin : (k : Int) < (n : Int) := by omega
      have HH := hide (has_any w.heap.size (t.getD k 0) (HF.out.at k) w1 HSM.out)
      have HNE := hide (fun w' => isNeutral_any (t.getD k 0) w')
      have HM := hide (meas_n0 n k hlt)
      have hcs := may_tests (t.getD k 0)
      have hmay := HO.out k (by rw [HLEN.out]; exact hlt)
      generalize t.getD k 0 = x at *
      clear hc
      rcases hcs with ⟨hm, e1⟩ | ⟨hm, e1, e2⟩ | ⟨hm, e1, e2⟩
      · rw [e1] at HH
        clear e1 hm hmay
        go_wp2_with (go_at_call 19; refine HH.out.mono ?_; rintro e w' ⟨rfl, rfl⟩)
        go_roundw
        case rel => exact ⟨k + 1, by go_num, by omega, trivial⟩
        case measure => exact HM.out
      · rw [e1] at HH
        rw [e2] at HNE
        clear e1 e2 hm hmay
        go_wp2_with (first | (go_at_call 19; refine HH.out.mono ?_; rintro e w' ⟨rfl, rfl⟩) | (go_at_call 20; refine (HNE.out _).mono ?_; rintro e w' ⟨rfl, rfl⟩))
        go_roundw
        case rel => exact ⟨k + 1, by go_num, by omega, trivial⟩
        case measure => exact HM.out
      · exact absurd hmay hm
    · obtain rfl : k = n := by omega
      have hne : ¬ ((k : Int) < (k : Int)) := by omega
      clear hlt hk
      have R1 := H.out.below HK.out
      have HNU := hide (near_up ao k cap w.heap.size so t w1 R1 HF.out HNN.out HSM.out)
      have HR1 := hide R1
      clear R1
      go_wp2_with fail
      refine (all_any _ _ _ _).mono ?_
      rintro e w' ⟨rfl, rfl⟩
      go_wp2_with fail
      refine HNU.out.mono ?_
      rintro e w3 ⟨g3, rfl, hr3, hk3⟩
      have HND := hide (near_down ao k cap w.heap.size eo t w3 (HR1.out.below hk3) HF.out HNN.out (HSM.out.below hk3))
      have HR3 := hide hr3
      have HK3 := hide hk3
      clear hr3 hk3 HNU
      go_wp2_with fail
      refine (back_any _ _ _ _).mono ?_
      rintro e w' ⟨rfl, rfl⟩
      go_wp2_with fail
      refine HND.out.mono ?_
      rintro e w5 ⟨g5, rfl, hr5, hk5⟩
      have HK5 := hide (KO.on HK3.out hk5)
      have HR5 := hide (HR3.out.below hk5)
      have HB5 := hide hr5
      have HT5 := hide (HR1.out.below HK5.out)
      have HS5 := hide (HSM.out.below HK5.out)
      have HKW := hide (KO.on HK.out HK5.out)
      clear hr5 hk5 HND HR3 HK3 HR1 HSM HK
      have hmk := HMK.out w5
      have HO0 : Hid (OW w5.heap.size w5.heap.size k k (Ne.RL t lv so eo 0) w5 (w5.alloc (.cells cur 3))) := hide ⟨by
        rw [Ne.RL_zero, HLEN.out]
        exact owns_block (cur := cur) (World.alloc_heap_new w5 _) HCL.out (by simp) (by unfold maxLen; have := HNN.out; omega) (Nat.le_refl _), (Below.refl _ _).alloc (Nat.le_refl _) _⟩
      go_wp2
      go_loopw [67] (fun v wr => ∃ j : Nat, v = .int .i64 (j : Int) ∧ j ≤ k ∧ Hid (OW w5.heap.size w5.heap.size k k (Ne.RL t lv so eo j) w5 wr)) (fun v _ => k - (intOf v).toNat)
      case atStart => exact ⟨0, rfl, Nat.zero_le _, HO0⟩
      case round =>
        obtain ⟨j, rfl, hj, hW⟩ := hrel
        by_cases hlt : j < k
        · have HTr := hide (HT5.out.below hW.out.bel)
          obtain ⟨b, off, rfl, hbl, hc⟩ := HTr.out.cells (by omega)
          have ck := hc j (by rw [HLEN.out]; exact hlt)
          have cA := rowAt (w' := wr) HR5.out hW.out.bel j hlt
          have cB := rowAt (w' := wr) HB5.out hW.out.bel j hlt
          rw [Nat.zero_add] at cA cB
          rw [Ne.AH_at _ _ (by rw [HLEN.out]; exact hlt)] at cA
          rw [Ne.BH_at _ _ (by rw [HLEN.out]; exact hlt)] at cB
          have hin : (j : Int) < (k : Int) := by omega
          have HH := hide (has_any w.heap.size (t.getD j 0) (HF.out.at j) wr (HS5.out.below hW.out.bel))
          have HM := hide (meas_n0 k j hlt)
          have co := hW.out.cell hlt
          have fo := hW.out.own.frozenAt j
          have HN := hide (fun (nq : Nat) (y : Int) (hy : Ne.r1 t lv so eo j = y) => (show OW w5.heap.size w5.heap.size k k (Ne.RL t lv so eo (j + 1)) w5 ((wr.drewN nq).setCell ⟨w5.heap.size, j, none⟩ (.int .i64 y)) from by
            rw [← Ne.RL_succ, hy]; exact (hW.out.drewN nq).set j y))
          have HN0 := hide (fun (y : Int) (hy : Ne.r1 t lv so eo j = y) => (show OW w5.heap.size w5.heap.size k k (Ne.RL t lv so eo (j + 1)) w5 (wr.setCell ⟨w5.heap.size, j, none⟩ (.int .i64 y)) from by
            rw [← Ne.RL_succ, hy]; exact hW.out.set j y))
          generalize (Ne.RL t lv so eo j).getD j 0 = old at co
          clear hc hbl
          by_cases hs : Ne.sd (t.getD j 0) = 0
          · have hb : (Ne.sd (t.getD j 0) != 0) = false := by rw [hs]; rfl
            rw [hb] at HH
            clear hb
            have hr : Ne.r1 t lv so eo j = if Ne.ah t so (j + 1) = Ne.ah t.reverse eo (t.length - j) then Ne.ah t so (j + 1) else Ne.es lv := by
              unfold Ne.r1; rw [if_pos hs]
            clear hs HN0
            generalize t.getD j 0 = x at *
            generalize Ne.ah t so (j + 1) = u at *
            generalize Ne.ah t.reverse eo (t.length - j) = v at *
            by_cases huv : u = v
            · rw [if_pos huv] at hr
              have HNX := hide (fun nq => HN.out nq u hr)
              subst huv
              clear hr HN
              go_wp2_with (go_at_call 19; refine HH.out.mono ?_; rintro e w' ⟨rfl, rfl⟩)
              go_quiet (fail)
              go_wp2
              go_roundw
              case rel => exact ⟨j + 1, by go_num, by omega, hide (HNX.out _)⟩
              case measure => exact HM.out
            · rw [if_neg huv] at hr
              have HNX := hide (fun nq => HN.out nq _ hr)
              have he : (u == v) = false := beq_false_of_ne huv
              clear hr HN huv
              generalize Ne.es lv = y at *
              go_wp2_with (go_at_call 19; refine HH.out.mono ?_; rintro e w' ⟨rfl, rfl⟩)
              go_quiet (fail)
              go_wp2_with (go_at_call 24; refine (HLS.out _).mono ?_; rintro e w' ⟨rfl, rfl⟩)
              go_roundw
              case rel => exact ⟨j + 1, by go_num, by omega, hide (HNX.out _)⟩
              case measure => exact HM.out
          · have hb : (Ne.sd (t.getD j 0) != 0) = true := bne_iff_ne.2 hs
            rw [hb] at HH
            clear hb
            have HNX := hide (HN0.out _ (sd_row hs))
            clear hs HN HN0 cA cB
            generalize t.getD j 0 = x at *
            go_wp2_with (go_at_call 19; refine HH.out.mono ?_; rintro e w' ⟨rfl, rfl⟩)
            go_roundw
            case rel => exact ⟨j + 1, by go_num, by omega, HNX⟩
            case measure => exact HM.out
        · obtain rfl : j = k := by omega
          have hne : ¬ ((j : Int) < (j : Int)) := by omega
          have HWW := hide (show Row .i64 wr (some ⟨w5.heap.size, 0, none⟩) j j (Ne.RS t lv so eo) ∧ KO w wr from by
            have h2 := hW.out.row
            rw [← HLEN.out, Ne.RL_all, HLEN.out] at h2
            exact ⟨h2, KO.on HKW.out hW.out.bel⟩)
          clear hW hlt
          go_wp2
          go_ret2
          exact ⟨_, rfl, HWW.out.1, HWW.out.2⟩
end Go.Proofs.Ytbpjacalnipkgaa
