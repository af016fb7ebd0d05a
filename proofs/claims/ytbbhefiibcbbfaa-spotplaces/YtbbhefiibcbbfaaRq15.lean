/- The document's Spots. -/
import Derived.Test.YtbbhefiibcbbfaaIp15
import Derived.Test.YtbbhefiibcbbfaaCs15
import Derived.Test.YtbbhefiibcbbfaaRg13
import Derived.Test.YtbbhefiibcbbfaaRc13
namespace Go.Proofs.Ytbbhefiibcbbfaa
open Go.RowKit
set_option linter.unusedVariables false
set_option maxHeartbeats 1600000
set_option maxRecDepth 100000
theorem SP_next (a : List Int) {i : Nat} (h : i < a.length) : (Spt.SP a).take (i + 1) = (Spt.SP a).take i ++ [Spt.sp a i] := by
  have hl : i < (Spt.SP a).length := by rw [Spt.SP_len]; exact h
  rw [List.take_succ_eq_append_getElem hl]
  have := Spt.SP_at a h
  simp only [List.getD, List.getElem?_eq_getElem hl, Option.getD_some] at this
  rw [this]
theorem rspots_ok (ao : Option Addr) (n cap : Nat) (l : List Int) (b : Int) (w : World) (h : Row .i64 w ao n cap l) (hb : b = 0 ∨ b = 1) (hf : Od.Fo l) (hn : n ≤ 60) :
    Calls Try.prog 11 #[.slice ao n cap, .int .i64 b] w fun e w' => ∃ x c, e = .returned (.tuple #[.slice x (n + 1) c, .int .i64 0]) ∧ IP w' x (n + 1) c (Spt.SP (Spt.al l b)) ∧ KO w w' := by
  have hl := h.len
  have hfa := (Spt.al_fo hb).2 hf
  have hea := Spt.al_endE (l := l) hb
  have hal : (Spt.al l b).length = n + 1 := by rw [Spt.al_len, hl]
  obtain ⟨a, ha⟩ : ∃ a, Spt.al l b = a := ⟨_, rfl⟩
  have hcat : l ++ [b] = a := ha
  rw [ha] at hfa hea hal ⊢
  obtain ⟨ii, hii, hy0, hy1, hy2⟩ := info_parts infoInt
  have HII : Hid (Try.prog.info? 3 = some ii) := hii
  have HY0 := hide hy0
  have HY1 := hide hy1
  have HY2 := hide hy2
  obtain ⟨jj, hjj, hz0, hz1, hz2⟩ := info_parts pairInfo
  have HJJ : Hid (Try.prog.info? 40 = some jj) := hjj
  have HZ0 := hide hz0
  have HZ1 := hide hz1
  have HZ2 := hide hz2
  have R0 := hide (h.below (KO.alloc (KO.refl w) (.cells #[] 3)))
  have K0 := hide (KO.alloc (KO.refl w) (.cells #[] 3))
  have OE := hide (owns_empty w 3 w.heap.size rfl)
  have HFA := hide hfa
  have HEA := hide hea
  have HAL := hide hal
  have HCAT := hide hcat
  have HO := hide (fun (x : Option Addr) (c : Nat) (W : World) (hr : Row .i64 W x (n + 1) c a) => rorder_any x (n + 1) c a W hr (by omega) (Od.ON a) 0 (.inl ⟨hfa, rfl, rfl⟩))
  have hOr := Od.ON_orderly hfa
  rw [hal] at hOr
  obtain ⟨m, hm⟩ : ∃ m, (Od.ON a).length = m := ⟨_, rfl⟩
  rw [hm] at HO hOr
  have HC : Hid (∀ (x : Option Addr) (c : Nat) (W : World), Row .i64 W x m c (Od.ON a) → Calls Try.prog 22 #[.slice x m c, .int .i64 ((n + 1 : Nat) : Int)] W fun e w' => ∃ g, e = .returned (.tuple #[.slice (some ⟨g, 0, none⟩) (n + 1) (n + 1), .int .i64 0]) ∧ w'.ownsRow W.heap.size 3 1 (.slice (some ⟨g, 0, none⟩) (n + 1) (n + 1)) (n + 1) ((Od.CO (Od.ON a) (n + 1) m).map (Value.int .i64)) ∧ KO W w') := hide (fun x c W hr => by
    refine (rcols_ok x m c (n + 1) (Od.ON a) W hr (by omega)).mono ?_
    rintro e w' ⟨h1, hk⟩
    rcases h1 with ⟨q, _⟩ | ⟨_, g, rfl, ho⟩
    · exact absurd hOr q
    · exact ⟨g, rfl, ho, hk⟩)
  have hCO : ∀ k, (Od.CO (Od.ON a) (n + 1) m).getD k 0 = Spt.co a k := fun k => by unfold Spt.co; rw [hal, hm]
  have HCOL : Hid ((Od.CO (Od.ON a) (n + 1) m).length = n + 1) := hide (Od.CO_len _ _ _)
  obtain ⟨co, hco⟩ : ∃ co, Od.CO (Od.ON a) (n + 1) m = co := ⟨_, rfl⟩
  rw [hco] at HC hCO HCOL
  have HCO := hide hCO
  have hb0 : ¬ b < 0 := by omega
  have hb1 : ¬ 1 < b := by omega
  clear hii hy0 hy1 hy2 hjj hz0 hz1 hz2 h hfa hea hal hcat ha hf hb hOr hm hCO hco hl
  go_enter Try.func11, Try.ntmps11
  go_wp2_with (at_builtin; refine wpList_append_row _ rfl (.tmp 21) (.tmp 22) 22 rfl w.heap.size 3 ii (.int .i64 0) 8 Try.underlying22 HII.out HY0.out HY1.out HY2.out rfl _ 0 [] rfl OE.out .i64 _ n cap l rfl R0.out (by omega) (by omega) (by simp) ?_)
  intro v1 w1 ho1 hb1'
  have K1 := hide (show KO w w1 from Below.trans K0.out hb1')
  have O1 := hide (ho1.alloc (.cells #[.int .i64 b] 3))
  have R1 := hide (row_lit .i64 w1 [b] 3 (by unfold maxLen; simp))
  have K1a := hide (KO.alloc K1.out (.cells #[.int .i64 b] 3))
  clear ho1 hb1'
  go_wp2_with (at_builtin; refine wpList_append_row _ rfl (.tmp 23) (.tmp 25) 22 rfl w.heap.size 3 ii (.int .i64 0) 8 Try.underlying22 HII.out HY0.out HY1.out HY2.out rfl _ n _ rfl O1.out .i64 _ 1 1 [b] rfl R1.out (by omega) (by omega) (K1a.out).size ?_)
  intro v2 w2 ho2 hb2'
  have K2 := hide (show KO w w2 from Below.trans K1a.out hb2')
  have ho2' : w2.ownsRow w.heap.size 3 1 v2 (n + 1) (a.map (Value.int .i64)) := by
    rw [← HCAT.out, List.map_append]
    exact ho2
  obtain ⟨x2, c2, ev, hr2⟩ := row_of_owns ho2'
  subst ev
  have R2 := hide hr2
  have HO2 := hide (HO.out _ _ _ hr2)
  clear ho2 hb2' ho2' hr2 HO O1 R1
  go_wp2_with fail
  refine HO2.out.mono ?_
  rintro e w3 ⟨x3, c3, rfl, hr3, hk3⟩
  have K3 := hide (KO.on K2.out hk3)
  have R3 := hide (R2.out.below hk3)
  have HC3 := hide (HC.out _ _ _ hr3)
  clear hr3 hk3 HO2 HC R2
  go_wp2_with fail
  refine HC3.out.mono ?_
  rintro e w4 ⟨g4, rfl, ho4, hk4⟩
  have K4 := hide (KO.on K3.out hk4)
  have R4 := hide (R3.out.below hk4)
  have C4 := hide (row_owned ho4)
  clear ho4 hk4 HC3 R3
  have hbo := build_pair1
  go_wp2
  go_loopw [11, 12] (fun s11 s12 W => ∃ i : Nat, s12 = .int .i64 (i : Int) ∧ i ≤ n + 1 ∧ Hid (W.ownsRow w4.heap.size 40 2 s11 i (flati ((Spt.SP a).take i))) ∧ Hid (KO w4 W)) (fun _ s12 _ => n + 1 - (intOf s12).toNat)
  case atStart => exact ⟨0, rfl, Nat.zero_le _, World.ownsRow_nil w4 _ _ _, hide (KO.refl _)⟩
  case round =>
    obtain ⟨i, rfl, hi, ho, hkw⟩ := hrel
    by_cases hlt : i < n + 1
    · have hin : (i : Int) < (n : Int) + 1 := by omega
      obtain ⟨b2, o2, rfl, hbl2, hc2⟩ := R4.out.cells (by omega)
      have HCA := hide (fun j (hj : j < n + 1) => (Below.cell hkw.out (by exact hbl2)).trans (hc2 j (by rw [HAL.out]; exact hj)))
      obtain ⟨b4, o4, e4, hbl4, hc4⟩ := C4.out.cells (by omega)
      simp only [Option.some.injEq, Addr.mk.injEq, and_true] at e4
      obtain ⟨rfl, rfl⟩ := e4
      have HCC := hide (fun j (hj : j < n + 1) => (Below.cell hkw.out (by exact hbl4)).trans (hc4 j (by rw [HCOL.out]; exact hj)))
      obtain ⟨n1, n2, n3, n4⟩ := Spt.nx_ok HEA.out (i := i) (by rw [HAL.out]; exact hlt)
      have n3 := (Od.sn_at n3).2
      rw [HAL.out] at n2
      obtain ⟨x, hx⟩ : ∃ x, Spt.nx a i = x := ⟨_, rfl⟩
      have HNX := hide hx
      rw [hx] at n1 n2 n3 n4
      have HN4 := hide n4
      clear hc2 hc4 hx n4
      go_wp2
      go_loop [13] (fun s13 => ∃ k : Nat, s13 = .int .i64 (k : Int) ∧ i ≤ k ∧ k ≤ x) (fun s13 => x - (intOf s13).toNat)
      case atStart => exact ⟨i, rfl, Nat.le_refl _, n1⟩
      case round =>
        obtain ⟨k, rfl, hk1, hk2⟩ := hrel
        have cak := HCA.out k (by omega)
        have hki : (k : Int) < (n : Int) + 1 := by omega
        by_cases hkx : k < x
        · have hneg := HN4.out k hk1 hkx
          generalize a.getD k 0 = ak at *
          go_wp2
          go_round
          case rel => exact ⟨k + 1, by go_num, by omega, by omega⟩
          case measure => simp [intOf]; omega
        · obtain rfl : k = x := by omega
          have hnn : ¬ a.getD k 0 < 0 := by omega
          have ccx := HCC.out k n2
          rw [HCO.out k] at ccx
          simp only [Nat.zero_add] at ccx
          obtain ⟨cx, hcx⟩ : ∃ cx, Spt.co a k = cx := ⟨_, rfl⟩
          rw [hcx] at ccx
          have HO := hide ho.out
          have hsz := hkw.out.size
          clear ho
          by_cases hki2 : k = i
          · subst hki2
            have hbb : ((k : Int) == (k : Int)) = true := by simp
            have HX := hide (show (Spt.SP a).take (k + 1) = (Spt.SP a).take k ++ [(cx, 1 - 2 * (a.getD k 0 % 2))] from by
              rw [SP_next a (by rw [HAL.out]; exact n2)]
              congr 2
              unfold Spt.sp Spt.ln
              rw [HNX.out]
              rw [if_pos rfl, hcx])
            have HFS := hide (flati_snoc ((Spt.SP a).take k) (cx, 1 - 2 * (a.getD k 0 % 2)))
            rw [← HX.out] at HFS
            clear HX
            generalize flati ((Spt.SP a).take k) = F0 at *
            obtain ⟨F1, hF1⟩ : ∃ F1, flati ((Spt.SP a).take (k + 1)) = F1 := ⟨_, rfl⟩
            rw [hF1] at HFS
            have HF1 := hide hF1
            clear hF1
            have hbd := (HFA.out k (by rw [HAL.out]; exact n2)).2
            generalize a.getD k 0 = ak at *
            go_wp2_with (at_builtin; refine wpList_append_own _ rfl (.tmp 66) (.tmp 73) 28 rfl w4.heap.size 40 jj _ 2 16 Try.underlying28 HJJ.out HZ0.out HZ1.out HZ2.out rfl (by decide) _ k _ rfl (HO.out.alloc _) ⟨wr.heap.size, 0, none⟩ 1 1 [.int .i64 cx, .int .i64 (1 - 2 * (ak % 2))] rfl rfl (two_new wr _ _ _) (by simp [Value.oneCell']) (by unfold maxLen; omega) (by omega) (by simp; omega) ?_; intro v5 w5 hown5 hg5 hn5)
            have HO5 := hide (show w5.ownsRow w4.heap.size 40 2 v5 (k + 1) F1 from by rw [HFS.out]; exact hown5)
            have HK5 := hide (show KO w4 w5 from Below.trans (KO.alloc hkw.out _) ((Below.refl w4.heap.size _).grown hg5 (by simp; omega) (fun q hq => ((HO.out.alloc (.cells #[.int .i64 cx, .int .i64 (1 - 2 * (ak % 2))] 40)).lt q hq).1)))
            clear hown5 hg5 hn5
            go_wp2
            go_roundw
            case rel => exact ⟨k + 1, by go_num, by omega, by rw [HF1.out]; exact HO5, HK5⟩
            case measure => simp [intOf]; omega
          · have hbb : ((k : Int) == (i : Int)) = false := beq_eq_false_iff_ne.2 (by omega)
            have HX := hide (show (Spt.SP a).take (i + 1) = (Spt.SP a).take i ++ [(cx, 0)] from by
              rw [SP_next a (by rw [HAL.out]; exact hlt)]
              congr 2
              unfold Spt.sp Spt.ln
              rw [HNX.out]
              rw [if_neg hki2, hcx])
            have HFS := hide (flati_snoc ((Spt.SP a).take i) (cx, 0))
            rw [← HX.out] at HFS
            clear HX
            generalize flati ((Spt.SP a).take i) = F0 at *
            obtain ⟨F1, hF1⟩ : ∃ F1, flati ((Spt.SP a).take (i + 1)) = F1 := ⟨_, rfl⟩
            rw [hF1] at HFS
            have HF1 := hide hF1
            clear hF1
            generalize a.getD k 0 = ak at *
            go_wp2_with (at_builtin; refine wpList_append_own _ rfl (.tmp 66) (.tmp 73) 28 rfl w4.heap.size 40 jj _ 2 16 Try.underlying28 HJJ.out HZ0.out HZ1.out HZ2.out rfl (by decide) _ i _ rfl (HO.out.alloc _) ⟨wr.heap.size, 0, none⟩ 1 1 [.int .i64 cx, .int .i64 (0)] rfl rfl (two_new wr _ _ _) (by simp [Value.oneCell']) (by unfold maxLen; omega) (by omega) (by simp; omega) ?_; intro v5 w5 hown5 hg5 hn5)
            have HO5 := hide (show w5.ownsRow w4.heap.size 40 2 v5 (i + 1) F1 from by rw [HFS.out]; exact hown5)
            have HK5 := hide (show KO w4 w5 from Below.trans (KO.alloc hkw.out _) ((Below.refl w4.heap.size _).grown hg5 (by simp; omega) (fun q hq => ((HO.out.alloc (.cells #[.int .i64 cx, .int .i64 (0)] 40)).lt q hq).1)))
            clear hown5 hg5 hn5
            go_wp2
            go_roundw
            case rel => exact ⟨i + 1, by go_num, by omega, by rw [HF1.out]; exact HO5, HK5⟩
            case measure => simp [intOf]; omega
    · obtain rfl : n + 1 = i := by omega
      have hne : ¬ (n : Int) + 1 < (n : Int) + 1 := by omega
      have ho2 := ho.out
      rw [List.take_of_length_le (by rw [Spt.SP_len, HAL.out]; exact Nat.le_refl _)] at ho2
      obtain ⟨x9, c9, rfl, hp⟩ := ip_of_owns ho2
      have HP := hide hp
      have K9 := hide (KO.on K4.out hkw.out)
      clear ho ho2 hp hkw
      go_wp2
      go_ret2
      exact ⟨x9, c9, rfl, HP.out, K9.out⟩
theorem rspots_any (ao : Option Addr) (n cap : Nat) (l : List Int) (b : Int) (w : World) (h : Row .i64 w ao n cap l) (hn : n ≤ 60) (Z : List (Int × Int)) (E : Int) (hA : SPA l b Z E) :
    Calls Try.prog 11 #[.slice ao n cap, .int .i64 b] w fun e w' => ∃ x c, e = .returned (.tuple #[.slice x Z.length c, .int .i64 E]) ∧ IP w' x Z.length c Z ∧ KO w w' := by
  rcases hA with ⟨⟨hb, hf⟩, rfl, rfl⟩ | ⟨hno, rfl, rfl⟩
  · have e : (Spt.SP (Spt.al l b)).length = n + 1 := by rw [Spt.SP_len, Spt.al_len, h.len]
    rw [e]
    exact rspots_ok ao n cap l b w h hb hf hn
  · by_cases h0 : b < 0
    · clear h hno
      go_enter Try.func11, Try.ntmps11
      go_wp2
      go_ret2
      exact ⟨none, 0, rfl, ip_nil _, KO.refl _⟩
    by_cases h1 : 1 < b
    · clear h hno
      go_enter Try.func11, Try.ntmps11
      go_wp2
      go_ret2
      exact ⟨none, 0, rfl, ip_nil _, KO.refl _⟩
    · have hb : b = 0 ∨ b = 1 := by omega
      have hf : ¬ Od.Fo l := fun q => hno ⟨hb, q⟩
      have hfa : ¬ Od.Fo (Spt.al l b) := fun q => hf ((Spt.al_fo hb).1 q)
      obtain ⟨a, ha⟩ : ∃ a, Spt.al l b = a := ⟨_, rfl⟩
      have hcat : l ++ [b] = a := ha
      rw [ha] at hfa
      obtain ⟨ii, hii, hy0, hy1, hy2⟩ := info_parts infoInt
      have HII : Hid (Try.prog.info? 3 = some ii) := hii
      have HY0 := hide hy0
      have HY1 := hide hy1
      have HY2 := hide hy2
      have R0 := hide (h.below (KO.alloc (KO.refl w) (.cells #[] 3)))
      have K0 := hide (KO.alloc (KO.refl w) (.cells #[] 3))
      have OE := hide (owns_empty w 3 w.heap.size rfl)
      have HCAT := hide hcat
      have HO := hide (fun (x : Option Addr) (c : Nat) (W : World) (hr : Row .i64 W x (n + 1) c a) => rorder_any x (n + 1) c a W hr (by omega) [] 2 (.inr ⟨hfa, rfl, rfl⟩))
      simp only [List.length_nil] at HO
      have hb0 : ¬ b < 0 := by omega
      clear hii hy0 hy1 hy2 h hfa hcat ha hf hb hno
      go_enter Try.func11, Try.ntmps11
      go_wp2_with (at_builtin; refine wpList_append_row _ rfl (.tmp 21) (.tmp 22) 22 rfl w.heap.size 3 ii (.int .i64 0) 8 Try.underlying22 HII.out HY0.out HY1.out HY2.out rfl _ 0 [] rfl OE.out .i64 _ n cap l rfl R0.out (by omega) (by omega) (by simp) ?_)
      intro v1 w1 ho1 hb1'
      have K1 := hide (show KO w w1 from Below.trans K0.out hb1')
      have O1 := hide (ho1.alloc (.cells #[.int .i64 b] 3))
      have R1 := hide (row_lit .i64 w1 [b] 3 (by unfold maxLen; simp))
      have K1a := hide (KO.alloc K1.out (.cells #[.int .i64 b] 3))
      clear ho1 hb1'
      go_wp2_with (at_builtin; refine wpList_append_row _ rfl (.tmp 23) (.tmp 25) 22 rfl w.heap.size 3 ii (.int .i64 0) 8 Try.underlying22 HII.out HY0.out HY1.out HY2.out rfl _ n _ rfl O1.out .i64 _ 1 1 [b] rfl R1.out (by omega) (by omega) (K1a.out).size ?_)
      intro v2 w2 ho2 hb2'
      have K2 := hide (show KO w w2 from Below.trans K1a.out hb2')
      have ho2' : w2.ownsRow w.heap.size 3 1 v2 (n + 1) (a.map (Value.int .i64)) := by
        rw [← HCAT.out, List.map_append]
        exact ho2
      obtain ⟨x2, c2, ev, hr2⟩ := row_of_owns ho2'
      subst ev
      have HO2 := hide (HO.out _ _ _ hr2)
      clear ho2 hb2' ho2' hr2 HO O1 R1
      go_wp2_with fail
      refine HO2.out.mono ?_
      rintro e w3 ⟨x3, c3, rfl, hr3, hk3⟩
      have K3 := hide (KO.on K2.out hk3)
      clear hr3 hk3 HO2
      go_wp2
      go_ret2
      exact ⟨none, 0, rfl, ip_nil _, K3.out⟩
end Go.Proofs.Ytbbhefiibcbbfaa
