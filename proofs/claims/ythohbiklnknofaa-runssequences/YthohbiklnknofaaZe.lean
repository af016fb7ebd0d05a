import Derived.Test.YthohbiklnknofaaZd
import Derived.Test.YthohbiklnknofaaRg
import Derived.Test.YthohbiklnknofaaZb
/- The document's Sequences. -/
namespace Go.Proofs.Ythohbiklnknofaa
open Go.RowKit Go.Maps
set_option linter.unusedVariables false
set_option maxHeartbeats 1000000
set_option maxRecDepth 100000
theorem refsequences_arg (ao : Option Addr) (n cap : Nat) (b : Int) (w : World) (hb : ¬ b = 0 ∧ ¬ b = 1) :
    Calls Try.prog 15 #[.slice ao n cap, .int .i64 b] w fun e w' => e = .returned (.tuple #[.slice none 0 0, .int .i64 2]) ∧ w = w' := by
  have HR := hide (rresolve_arg ao n cap b w hb)
  go_enter Try.func15, Try.ntmps15
  go_wp2_with (go_at_call 25; refine HR.out.mono ?_; rintro e w' ⟨rfl, rfl⟩)
  go_ret2
  exact ⟨rfl, rfl⟩
theorem refsequences_form (ao : Option Addr) (n cap : Nat) (c : List Int) (b : Int) (w : World) (h : Row .i64 w ao n cap c) (hn : n ≤ 300) (hb : b = 0 ∨ b = 1) (hF : ¬ Ex.Formed c) :
    Calls Try.prog 15 #[.slice ao n cap, .int .i64 b] w fun e w' => e = .returned (.tuple #[.slice none 0 0, .int .i64 50]) ∧ w = w' := by
  have HR := hide (rresolve_form ao n cap c b w h hn hb hF)
  clear h hn hb hF
  go_enter Try.func15, Try.ntmps15
  go_wp2_with (go_at_call 25; refine HR.out.mono ?_; rintro e w' ⟨rfl, rfl⟩)
  go_ret2
  exact ⟨rfl, rfl⟩
/-- What the document's Sequences keeps. -/
structure RI8 (W : World) (b : Int) (lv mt : List Int) (rs : List (List Nat)) (i j : Nat) (v : Value) (wr : World) : Prop where
  done : ∀ j', j' < j → Rn.fst rs j' < i
  next : j < rs.length → i ≤ Rn.fst rs j
  so : ∃ hs, SO W.heap.size wr v hs (Rn.sqs b lv mt rs j)
  bel : Below W.heap.size W wr
theorem refsequences_ok (ao : Option Addr) (n cap0 : Nat) (c : List Int) (b : Int) (w : World) (h : Row .i64 w ao n cap0 c) (hn : n ≤ 300) (hb : b = 0 ∨ b = 1) (hF : Ex.Formed c) :
    Calls Try.prog 15 #[.slice ao n cap0, .int .i64 b] w fun e w' => ∃ sa cs, e = .returned (.tuple #[.slice sa (Rn.sqs b (Ex.LV b c) (Iso.MT c) (Rn.RS (Ex.LV b c)) (Rn.RS (Ex.LV b c)).length).length cs, .int .i64 0]) ∧ SL w' sa (Rn.sqs b (Ex.LV b c) (Iso.MT c) (Rn.RS (Ex.LV b c)) (Rn.RS (Ex.LV b c)).length).length cs (Rn.sqs b (Ex.LV b c) (Iso.MT c) (Rn.RS (Ex.LV b c)) (Rn.RS (Ex.LV b c)).length) ∧ Below w.heap.size w w' := by
  have hlen := h.len
  have HL := hide hlen
  have H := hide h
  have hR := Rn.runs_of (Ex.LV b c)
  have HRE := hide (rresolve_ok ao n cap0 c b w h hn hb hF)
  have HSE := hide (fun (W : World) (al : Option Addr) (cl : Nat) (hw : KO w W) (h' : Row .i64 W al n cl (Ex.LV b c)) k (hk : k < (Rn.RS (Ex.LV b c)).length) => refsequence_any (h.below hw) h' hn hb hF hk)
  have HOW := hide (fun (W : World) (hw : KO w W) j (hj : j < (Rn.RS (Ex.LV b c)).length) => (show Calls Try.prog 26 #[.slice ao n cap0, .int .i64 (Rn.fst (Rn.RS (Ex.LV b c)) j : Int)] W fun e w' => e = .returned (.bool (!(Rn.bg (Iso.MT c) (Rn.RS (Ex.LV b c)) j))) ∧ W = w' from by
    have hf := (Rn.fst_kept hR hj).1
    rw [Ex.LV_len] at hf
    refine refowned_any (h.below hw) hn (by omega) _ ?_
    rw [← Rn.bg_iff hf]
    cases Rn.bg (Iso.MT c) (Rn.RS (Ex.LV b c)) j <;> simp))
  have HR := hide hR
  have HLVL := hide (Ex.LV_len b c)
  have hNl : (Rn.RS (Ex.LV b c)).length ≤ n := by
    have h2 := Rn.R_len (Ex.LV b c) (Ex.LV b c).length
    rw [Ex.LV_len] at h2
    unfold Rn.RS
    rw [Ex.LV_len]
    omega
  have hbs := build_seq1
  obtain ⟨ii, hii, hy0, hy1, hy2⟩ := info_parts seqInfo3
  have HII := hide hii
  have HY0 := hide hy0
  have HY1 := hide hy1
  have HY2 := hide hy2
  generalize Rn.RS (Ex.LV b c) = rs at *
  generalize Ex.LV b c = lv at *
  generalize Iso.MT c = mt at *
  clear h hF hR hii hy0 hy1 hy2 hb
  go_enter Try.func15, Try.ntmps15
  go_wp2_with fail
  refine HRE.out.mono ?_
  rintro e W ⟨al, cl, at', ct, rfl, rl, _, hb1⟩
  have HRL := hide rl
  have HB := hide hb1
  have HKW : Hid (KO w W) := hb1
  clear rl hb1 HRE
  go_wp2
  go_loopw [9, 10] (fun s9 s10 wr => ∃ i j : Nat, i ≤ n ∧ j ≤ rs.length ∧ s10 = .int .i64 (i : Int) ∧ Hid (RI8 W b lv mt rs i j s9 wr)) (fun _ s10 _ => n - (intOf s10).toNat)
  case atStart => exact ⟨0, 0, Nat.zero_le _, Nat.zero_le _, rfl, hide ⟨fun j' h => by omega, fun _ => Nat.zero_le _, ⟨[], SO.begin _ _⟩, Below.refl _ _⟩⟩
  case round =>
    obtain ⟨i, j, hi, hj, rfl, hq⟩ := hrel
    have HQ := hide hq.out
    obtain ⟨hs, hso⟩ := hq.out.so
    have hbw := hq.out.bel
    clear hq
    obtain ⟨av, cv, rfl, hav⟩ := owns_form hso.oa
    have hsl := Rn.sqs_len b lv mt rs j
    by_cases hin : i < n
    · have hin2 : (i : Int) < (n : Int) := by omega
      have hrow := HRL.out.below hbw
      by_cases hyes : j < rs.length ∧ Rn.fst rs j = i
      · obtain ⟨hj1, hj2⟩ := hyes
        have hfy := rfirst_yes hrow (by omega) HR.out hj1
        rw [hj2] at hfy
        have HFY := hide hfy
        have hnext : j + 1 < rs.length → i + 1 ≤ Rn.fst rs (j + 1) := fun hjn => by have h1 := Rn.lst_fst HR.out (j + 1) j (by omega) hjn; have h2 := (Rn.run_le HR.out hj1 (HR.out.pos j hj1)).2; have e : (Rn.rn rs j).getD 0 0 = Rn.fst rs j := rfl; omega
        have hdone : ∀ j', j' < j + 1 → Rn.fst rs j' < i + 1 := fun j' h' => by
          by_cases e : j' = j
          · subst e; omega
          · have := HQ.out.done j' (by omega); omega
        have HND := hide (And.intro hnext hdone)
        have HOWJ := hide (fun q => by
          have := HOW.out (wr.drewN q) (KO.on (KO.on HKW.out hbw) (below_drewN wr q)) j hj1
          rw [hj2] at this
          exact this)
        have HSEJ := hide (fun q => by
          have := HSE.out (wr.drewN q) al cl (KO.on (KO.on HKW.out hbw) (below_drewN wr q)) (hrow.below (below_drewN wr q)) j hj1
          rw [hj2] at this
          exact this)
        have hszX : W.heap.size ≤ wr.heap.size := hbw.size
        have HBW := hide (show ∀ q, Below W.heap.size W (wr.drewN q) from fun q => KO.on hbw (below_drewN wr q))
        have HSO := hide (show ∀ q, SO W.heap.size (wr.drewN q) (.slice av (Rn.sqs b lv mt rs j).length cv) hs (Rn.sqs b lv mt rs j) from fun q => hso.below (below_drewN wr q))
        have HOA := hide hso.oa
        cases hbg : Rn.bg mt rs j with
        | false =>
          rw [hbg] at HOWJ
          have HE := hide (show ∀ q, RI8 W b lv mt rs (i + 1) (j + 1) (.slice av (Rn.sqs b lv mt rs j).length cv) (wr.drewN q) from fun q => ⟨hdone, hnext, ⟨hs, by rw [Rn.sqs_no hbg]; exact HSO.out q⟩, HBW.out q⟩)
          clear hfy hnext hdone hso hbw hrow hbg HSEJ HSO HBW HOA HQ
          generalize (Rn.sqs b lv mt rs j).length = L at *
          go_wp2_with (first
            | (go_at_call 20; refine HFY.out.mono ?_; rintro e w1 ⟨rfl, qa, rfl⟩)
            | (go_at_call 26; refine (HOWJ.out _).mono ?_; rintro e w1 ⟨rfl, rfl⟩))
          exact ⟨⟨i + 1, j + 1, by omega, by omega, by go_num, hide (HE.out qa)⟩, by simp [intOf]; omega⟩
        | true =>
          rw [hbg] at HOWJ
          have HSY := hide (Rn.sqs_yes (b := b) (lv := lv) hbg)
          obtain ⟨s, hse⟩ : ∃ s, Rn.sq b lv mt rs j = s := ⟨_, rfl⟩
          rw [hse] at HSY HSEJ
          obtain ⟨ps, x, y, z⟩ := s
          simp only at HSEJ
          generalize hLL : (Rn.sqs b lv mt rs j).length = L at *
          have HLE := hide hLL
          clear hfy hnext hdone hso hbw hrow hbg HQ hLL hse
          go_wp2_with (first
            | (go_at_call 20; refine HFY.out.mono ?_; rintro e w1 ⟨rfl, qa, rfl⟩)
            | (go_at_call 26; refine (HOWJ.out _).mono ?_; rintro e w1 ⟨rfl, rfl⟩)
            | (go_at_call 27; refine (HSEJ.out _).mono ?_; rintro e w6 ⟨g6, c6, rfl, how6, hb6⟩; have hs6 := (HSO.out qa).below hb6; have hz6 : wr.heap.size ≤ w6.heap.size := hb6.size)
            | (at_builtin; refine wpList_append_own_at _ rfl (.tmp 36) (.tmp 42) 29 rfl W.heap.size 36 ii _ 4 48 Try.underlying29 HII.out HY0.out HY1.out HY2.out rfl (by decide) (.slice av L cv) L (scs hs (Rn.sqs b lv mt rs j)) rfl (show (w6.alloc (.cells (sc (g6, c6) ⟨ps, x, y, z⟩).toArray 36)).ownsRow W.heap.size 36 4 (.slice av L cv) L (scs hs (Rn.sqs b lv mt rs j)) from (by have := hs6.oa; rw [HLE.out] at this; exact this.alloc _)) ⟨w6.heap.size, 0, none⟩ 1 1 (sc (g6, c6) ⟨ps, x, y, z⟩) rfl rfl (cells_new w6 (sc (g6, c6) ⟨ps, x, y, z⟩) 36) (sc_one _ _) (by unfold maxLen; omega) (by omega) (by simp; omega) ?_; intro v7 w7 ho7 hg7 _ _; obtain ⟨g7, c7, rfl, _, _⟩ := owns_pos ho7 (by omega)))
          refine ⟨⟨i + 1, j + 1, by omega, by omega, by go_num, hide ⟨HND.out.2, HND.out.1, ⟨hs ++ [(g6, c6)], ?_⟩, ?_⟩⟩, by simp [intOf]; omega⟩
          · rw [HSY.out]
            refine (hs6.below ((Below.refl _ _).alloc (Nat.le_refl _) _)).push (s := ⟨ps, x, y, z⟩) (owns_below (owns_mono how6 hszX) ((Below.refl _ _).alloc (Nat.le_refl _) _)) ?_ hg7
            rw [HLE.out]
            exact ho7
          · exact grown_alloc ((HBW.out qa).trans (hb6.mono hszX)) (by omega) hg7 (fun q hq => (HOA.out.lt q hq).1)
      · have HFN : Hid (Calls Try.prog 20 #[.slice al n cl, .int .i64 (i : Int)] wr fun e w' => e = .returned (.bool false) ∧ ∃ q, w' = wr.drewN q) := by
          by_cases hneg : lv.getD i 0 < 0
          · exact rfirst_neg hrow hin hneg
          · obtain ⟨j', m, h1, h2, h3⟩ := HR.out.cover i (by rw [HLVL.out, HL.out]; exact hin) (show decide (0 ≤ lv.getD i 0) = true from decide_eq_true (by omega))
            by_cases hm0 : m = 0
            · exfalso
              subst hm0
              have e : Rn.fst rs j' = i := h3
              by_cases c1 : j' < j
              · have := HQ.out.done j' c1; omega
              · by_cases c2 : j' = j
                · subst c2; exact hyes ⟨h1, e⟩
                · have h4 := Rn.lst_fst HR.out j' j (by omega) h1
                  have h5 := (Rn.run_le HR.out (show j < rs.length by omega) (HR.out.pos j (by omega))).2
                  have e' : (Rn.rn rs j).getD 0 0 = Rn.fst rs j := rfl
                  have h6 := HQ.out.next (by omega)
                  omega
            · obtain ⟨m', rfl⟩ : ∃ m', m = m' + 1 := ⟨m - 1, by omega⟩
              rw [← h3]
              exact rfirst_in hrow (by omega) HR.out h1 h2
        have HE := hide (show ∀ q, RI8 W b lv mt rs (i + 1) j (.slice av (Rn.sqs b lv mt rs j).length cv) (wr.drewN q) from fun q => ⟨fun j' h => by have := HQ.out.done j' h; omega, fun h => by have h1 := HQ.out.next h; by_cases e : Rn.fst rs j = i; exact absurd ⟨h, e⟩ hyes; omega, ⟨hs, hso.below (below_drewN wr q)⟩, KO.on hbw (below_drewN wr q)⟩)
        clear hso hbw hrow hyes HQ
        generalize (Rn.sqs b lv mt rs j).length = L at *
        go_wp2_with (go_at_call 20; refine HFN.out.mono ?_; rintro e w1 ⟨rfl, qa, rfl⟩)
        exact ⟨⟨i + 1, j, by omega, by omega, by go_num, hide (HE.out qa)⟩, by simp [intOf]; omega⟩
    · obtain rfl : i = n := by omega
      have hne : ¬ ((i : Int) < (i : Int)) := by omega
      have hje : j = rs.length := by
        by_cases e : j < rs.length
        · have h1 := HQ.out.next e
          have h2 := (Rn.fst_kept HR.out e).1
          rw [HLVL.out, HL.out] at h2
          omega
        · omega
      subst hje
      obtain ⟨sa, cs, e4, hsl2⟩ := hso.view
      rw [e4]
      have HSL := hide hsl2
      have HBE := hide (KO.on HKW.out hbw)
      clear hso hbw HQ e4 hav hsl2
      generalize hLL : (Rn.sqs b lv mt rs rs.length).length = L at *
      have HLE := hide hLL
      clear hLL
      go_wp2
      go_ret2
      have hq := HLE.out
      subst hq
      exact ⟨sa, cs, rfl, HSL.out, HBE.out⟩
end Go.Proofs.Ythohbiklnknofaa

/- RunsSequences: isolating run sequences are as the document has them. -/
namespace Go.Proofs.Ythohbiklnknofaa
open Go.RowKit Go.Maps
set_option linter.unusedVariables false
set_option maxHeartbeats 2000000
set_option maxRecDepth 100000
theorem SL.nil (w : World) : SL w none 0 0 [] := ⟨rfl, Nat.le_refl _, fun j hj => by omega⟩
theorem RunsSequences_walk (w : World) (a0 : Option Addr) (n0 cap0 : Nat) (c : List Int) (h0 : Row .i64 w a0 n0 cap0 c) (hf0 : ∀ x ∈ c, (Lit.int .i64 x).wf = true) (hs0 : n0 * 8 ≤ 140737488351232) (b : Int) (hwb : (Lit.int .i64 b).wf = true) :
    Calls Try.prog 4 #[.slice a0 n0 cap0, .int .i64 b] w fun e w' => e = .returned (.bool true) ∧ Below w.heap.size w w' := by
  by_cases hbig : n0 ≤ 120
  · have e0 : ¬ ((120 : Int) < (n0 : Int)) := by omega
    obtain ⟨ii, hii, hy0, hy1, hy2⟩ := info_parts infoInt
    have HII : Hid (Try.prog.info? 3 = some ii) := hii
    have HY0 := hide hy0
    have HY1 := hide hy1
    have HY2 := hide hy2
    have H0 := hide h0
    have hka : KO w (w.alloc (.cells #[] 3)) := KO.alloc (KO.refl _) _
    have HKA := hide hka
    obtain ⟨R, ss, hsl, hR⟩ : ∃ (R : Int) (ss : List Rn.Sq), ss.length ≤ 2000 ∧ ((R = 2 ∧ ss = [] ∧ ¬ b = 0 ∧ ¬ b = 1) ∨ (R = 50 ∧ ss = [] ∧ (b = 0 ∨ b = 1) ∧ ¬ Ex.Formed c) ∨ (R = 0 ∧ ss = Rn.sqs b (Ex.LV b c) (Iso.MT c) (Rn.RS (Ex.LV b c)) (Rn.RS (Ex.LV b c)).length ∧ (b = 0 ∨ b = 1) ∧ Ex.Formed c)) := by
      by_cases hb : b = 0 ∨ b = 1
      · by_cases hF : Ex.Formed c
        · refine ⟨0, _, ?_, .inr (.inr ⟨rfl, rfl, hb, hF⟩)⟩
          have h1 := Rn.sqs_len b (Ex.LV b c) (Iso.MT c) (Rn.RS (Ex.LV b c)) (Rn.RS (Ex.LV b c)).length
          have h2 := Rn.R_len (Ex.LV b c) (Ex.LV b c).length
          rw [Ex.LV_len] at h2
          have h3 : (Rn.RS (Ex.LV b c)).length ≤ c.length := by unfold Rn.RS; rw [Ex.LV_len]; exact h2
          have h4 := h0.len
          omega
        · exact ⟨50, [], by simp, .inr (.inl ⟨rfl, rfl, hb, hF⟩)⟩
      · exact ⟨2, [], by simp, .inl ⟨rfl, rfl, by omega, by omega⟩⟩
    have HRS : Hid (∀ (w' : World) (ao : Option Addr) (cp : Nat), Row .i64 w' ao n0 cp c → Calls Try.prog 14 #[.slice ao n0 cp, .int .i64 b] w' fun e w2 => ∃ (sa : Option Addr) (cs : Nat), e = .returned (.tuple #[.slice sa ss.length cs, .int .i64 R]) ∧ SL w2 sa ss.length cs ss ∧ Below w'.heap.size w' w2) := hide fun w' ao cp hr => by
      rcases hR with ⟨rfl, rfl, hb⟩ | ⟨rfl, rfl, hb, hF⟩ | ⟨rfl, rfl, hb, hF⟩
      · refine (sequences_arg ao n0 cp b w' hb).mono ?_
        rintro e w2 ⟨rfl, rfl⟩
        exact ⟨none, 0, rfl, SL.nil _, Below.refl _ _⟩
      · refine (sequences_form ao n0 cp c b w' hr hs0 hb hF).mono ?_
        rintro e w2 ⟨rfl, rfl⟩
        exact ⟨none, 0, rfl, SL.nil _, Below.refl _ _⟩
      · exact sequences_ok ao n0 cp c b w' hr (by omega) hb hF
    have HRR : Hid (∀ (w' : World) (ao : Option Addr) (cp : Nat), Row .i64 w' ao n0 cp c → Calls Try.prog 15 #[.slice ao n0 cp, .int .i64 b] w' fun e w2 => ∃ (sa : Option Addr) (cs : Nat), e = .returned (.tuple #[.slice sa ss.length cs, .int .i64 R]) ∧ SL w2 sa ss.length cs ss ∧ Below w'.heap.size w' w2) := hide fun w' ao cp hr => by
      rcases hR with ⟨rfl, rfl, hb⟩ | ⟨rfl, rfl, hb, hF⟩ | ⟨rfl, rfl, hb, hF⟩
      · refine (refsequences_arg ao n0 cp b w' hb).mono ?_
        rintro e w2 ⟨rfl, rfl⟩
        exact ⟨none, 0, rfl, SL.nil _, Below.refl _ _⟩
      · refine (refsequences_form ao n0 cp c b w' hr (by omega) hb hF).mono ?_
        rintro e w2 ⟨rfl, rfl⟩
        exact ⟨none, 0, rfl, SL.nil _, Below.refl _ _⟩
      · exact refsequences_ok ao n0 cp c b w' hr (by omega) hb hF
    have hRR : (R != R) = false := by simp
    generalize hLL : ss.length = L at *
    clear h0 hf0 hs0 hii hy0 hy1 hy2 hka hR hwb hLL
    go_enter Try.func4, Try.ntmps4
    go_wp2_with (at_builtin; refine wpList_append_row _ rfl (.tmp 15) (.tmp 16) 22 rfl w.heap.size 3 ii (.int .i64 0) 8 Try.underlying22 HII.out HY0.out HY1.out HY2.out rfl _ 0 [] rfl (owns_empty w 3 w.heap.size rfl) .i64 a0 n0 cap0 c rfl (H0.out.below HKA.out) (by omega) (by omega) (by simp) ?_; intro v2 w1 hown2 hb2)
    rw [List.nil_append, Nat.zero_add] at hown2
    obtain ⟨a2, c2, rfl, hr2⟩ := row_of_owns hown2
    have k1 : KO w w1 := Below.trans HKA.out hb2
    have HR1 := hide hr2
    clear hown2 hb2 hr2
    have HM := hide (HRS.out w1 a2 c2 HR1.out)
    clear HRS
    go_wp2_with fail
    refine HM.out.mono ?_
    rintro e w2 ⟨sa, cs, rfl, sl, hb2⟩
    have k2 : KO w1 w2 := hb2
    have HN := hide (HRR.out w2 a0 cap0 (H0.out.below (KO.on k1 k2)))
    have HSL2 := hide sl
    clear sl hb2 HM HRR
    go_wp2_with fail
    refine HN.out.mono ?_
    rintro e w3 ⟨sb, ct, rfl, sl', hb3⟩
    have k3 : KO w1 w3 := KO.on k2 hb3
    have HSA3 := hide (HSL2.out.below hb3)
    have HSB3 := hide sl'
    have HI := hide (ints_yes a2 a0 n0 c2 cap0 c w3 (HR1.out.below k3) (H0.out.below (KO.on k1 k3)))
    clear sl' hb3 HN HSL2
    go_wp2_with fail
    refine HI.out.mono ?_
    rintro e W ⟨rfl, hd⟩
    have hbd := below_of_drewN hd
    have HSA := hide (HSA3.out.below hbd)
    have HSB := hide (HSB3.out.below hbd)
    have HK := hide (show KO w W from KO.on k1 (KO.on k3 hbd))
    clear hd hbd HI HSA3 HSB3 k1 k2 k3
    go_wp2
    go_loopw [48] (fun s48 wr => ∃ j q : Nat, j ≤ L ∧ s48 = .int .i64 (j : Int) ∧ wr = W.drewN q) (fun s48 _ => L - (intOf s48).toNat)
    case atStart => exact ⟨0, 0, Nat.zero_le _, rfl, rfl⟩
    case round =>
      obtain ⟨j, q, hj, rfl, rfl⟩ := hrel
      by_cases hjl : j < L
      · have hjl2 : (j : Int) < (L : Int) := by omega
        obtain ⟨V, hV⟩ : ∃ V, W.drewN q = V := ⟨_, rfl⟩
        obtain ⟨g, gj, cj, rfl, _, d0, d1, d2, d3, r0⟩ := (HSA.out.below (below_drewN W q)).at' j hjl
        obtain ⟨g', gj', cj', rfl, _, e0', e1', e2', e3', r1⟩ := (HSB.out.below (below_drewN W q)).at' j hjl
        rw [hV] at d0 d1 d2 d3 r0 e0' e1' e2' e3' r1 ⊢
        have HI := hide (fun q => ints_yes _ _ _ _ _ _ (V.drewN q) (r0.below (below_drewN V q)) (r1.below (below_drewN V q)))
        generalize (ss.getD j default).lvl = x at *
        generalize (ss.getD j default).sos = y at *
        generalize (ss.getD j default).eos = z at *
        generalize (ss.getD j default).places.length = m at *
        have HV := hide hV
        clear r0 r1 hV
        go_wp2
        go_quiet (first | (go_at_call 13; exact Calls.quiet_of (HI.out _)))
        go_wp2
        exact ⟨⟨j + 1, _, by omega, by go_num, by rw [← HV.out, World.drewN_drewN]⟩, by simp [intOf]; omega⟩
      · obtain rfl : j = L := by omega
        have hne : ¬ ((j : Int) < (j : Int)) := by omega
        have HW := hide (works8_any (W.drewN q))
        go_wp2_with (go_at_call 9; refine HW.out.mono ?_; rintro e w9 ⟨rfl, hb9⟩)
        go_ret
        exact ⟨rfl, KO.on (KO.on HK.out (below_drewN W q)) hb9⟩
  · have e0 : (120 : Int) < (n0 : Int) := by omega
    have HW := hide (works8_any w)
    clear h0 hf0 hs0 hbig
    go_enter Try.func4, Try.ntmps4
    go_wp2_with (go_at_call 9; refine HW.out.mono ?_; rintro e w1 ⟨rfl, hb1⟩)
    go_ret
    exact ⟨rfl, hb1⟩
end Go.Proofs.Ythohbiklnknofaa
