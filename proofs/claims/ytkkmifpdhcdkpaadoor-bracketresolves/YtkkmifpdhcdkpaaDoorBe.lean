/- Resolve: its contract. -/
import Derived.Test.YtkkmifpdhcdkpaaDoorBd
namespace Go.Proofs.YtkkmifpdhcdkpaaDoor
open Go.RowKit
set_option linter.unusedVariables false
set_option maxHeartbeats 1000000
set_option maxRecDepth 100000
namespace Br
def Arg (nl nw nt : Nat) (lv s : Int) : Prop := (nl = nt ∧ nw = nt) ∧ (0 ≤ lv ∧ lv ≤ 126) ∧ (s = 1 ∨ s = 2)
instance (nl nw nt : Nat) (lv s : Int) : Decidable (Arg nl nw nt lv s) := by unfold Arg; infer_instance
/-- What Resolve answers: an error's number, and the types. -/
def RA (l was t : List Int) (lv s : Int) : Int × List Int :=
  if Arg l.length was.length t.length lv s then (if t.all may = true then (0, rs was (es lv) s t (PP l t)) else (50, [])) else (2, [])
theorem RA_arg {l was t : List Int} {lv s : Int} (h : ¬ Arg l.length was.length t.length lv s) : RA l was t lv s = (2, []) := by unfold RA; rw [if_neg h]
theorem RA_form {l was t : List Int} {lv s : Int} (h : Arg l.length was.length t.length lv s) (h2 : t.all may = false) : RA l was t lv s = (50, []) := by unfold RA; rw [if_pos h, h2]; rfl
theorem RA_ok {l was t : List Int} {lv s : Int} (h : Arg l.length was.length t.length lv s) (h2 : t.all may = true) : RA l was t lv s = (0, rs was (es lv) s t (PP l t)) := by unfold RA; rw [if_pos h, h2]; rfl
theorem all_no {t : List Int} {k : Nat} (h : k < t.length) (hm : may (t.getD k 0) = false) : t.all may = false := by
  rw [List.all_eq_false]
  refine ⟨t[k], List.getElem_mem h, ?_⟩
  have e : t.getD k 0 = t[k] := by simp [List.getD, List.getElem?_eq_getElem h]
  rw [e] at hm
  rw [hm]; decide
theorem all_yes {t : List Int} (h : ∀ k, k < t.length → may (t.getD k 0) = true) : t.all may = true := by
  rw [List.all_eq_true]
  intro x hx
  obtain ⟨k, hk, e⟩ := List.getElem_of_mem hx
  have := h k hk
  simp only [List.getD_eq_getElem?_getD, List.getElem?_eq_getElem hk, Option.getD_some] at this
  rw [← e]; exact this
theorem PP_at {l t : List Int} {j : Nat} (h : j < (PP l t).length) : (PP l t).getD j (0, 0) ∈ PP l t := by
  simp only [List.getD_eq_getElem?_getD, List.getElem?_eq_getElem h, Option.getD_some]; exact List.getElem_mem h
theorem PP_lt {l t : List Int} {j : Nat} (h : j < (PP l t).length) : ((PP l t).getD j (0, 0)).1 < ((PP l t).getD j (0, 0)).2 ∧ ((PP l t).getD j (0, 0)).2 < l.length := by
  have := F_p _ (mem_PS.1 (PP_at h))
  exact ⟨this.1, this.2.1⟩
theorem take_pair {ps : List (Nat × Nat)} {j : Nat} (h : j < ps.length) : ps.take (j + 1) = ps.take j ++ [ps.getD j (0, 0)] := by
  rw [List.take_succ_eq_append_getElem h]; simp [List.getD, List.getElem?_eq_getElem h]
end Br
theorem OW.keep {base g n cap : Nat} {zs : List Int} {w0 w w' : World} (h : OW base g n cap zs w0 w) (hb : Below w.heap.size w w') : OW base g n cap zs w0 w' :=
  ⟨owns_below h.own hb, h.bel.trans (hb.mono (by have := h.own.lt g rfl; omega))⟩
theorem two64 : (Tryd.prog.info? 42).map (·.size) = some 2 := by kernel_rfl
theorem two_one64 (x y : Int) : (#[.int .i64 x, .int .i64 y] : Array Value).all (·.oneCell') = true := by simp [Value.oneCell']
/-- What is said of an answer. -/
def R10 (w : World) (A : Int × List Int) (e : Ending) (w' : World) : Prop := ∃ ao cap, e = .returned (.tuple #[.slice ao A.2.length cap, .int .i64 A.1]) ∧ Row .i64 w' ao A.2.length cap A.2 ∧ KO w w'
theorem R10.err {w w' : World} {A : Int × List Int} {x : Int} (h : A = (x, [])) (hk : KO w w') : R10 w A (.returned (.tuple #[.slice none 0 0, .int .i64 x])) w' := by
  subst h; exact ⟨none, 0, rfl, row_nil _ _, hk⟩
theorem resolve_any (a0 a1 a2 : Option Addr) (n0 n1 n2 c0 c1 c2 : Nat) (l was t : List Int) (lv s : Int) (w : World) (h0 : Row .i32 w a0 n0 c0 l) (h1 : Row .i64 w a1 n1 c1 was) (h2 : Row .i64 w a2 n2 c2 t) (hf : ∀ x ∈ l, (Lit.int .i32 x).wf = true) (hm : Marks w) (hn : n2 * 8 ≤ 140737488351232) :
    Calls Tryd.prog 15 #[.slice a0 n0 c0, .slice a1 n1 c1, .slice a2 n2 c2, .int .i64 lv, .int .i64 s] w (R10 w (Br.RA l was t lv s)) := by
  have hn0 : n0 ≤ 9223372036854775807 := by have h3 := h0.le; have h4 := h0.max; unfold maxLen at h4; omega
  have hn1 : n1 ≤ 9223372036854775807 := by have h3 := h1.le; have h4 := h1.max; unfold maxLen at h4; omega
  have e0 := h0.len
  have e1 := h1.len
  have e2 := h2.len
  by_cases hA : n1 = n2 ∧ (0 ≤ lv ∧ lv ≤ 126) ∧ (s = 1 ∨ s = 2)
  · obtain ⟨rfl, ⟨hl0, hl1⟩, hs⟩ := hA
    have q1 : ¬ (lv < 0) := by omega
    have q2 : ¬ (126 < lv) := by omega
    have qn : ((n1 : Int) != (n1 : Int)) = false := by simp
    by_cases hN : n0 = n1
    · subst hN
      have HPR := hide (pairs_ok a0 a2 n0 c0 c2 l t w h0 h2 hf hm hn)
      have HARG : Hid (Br.Arg l.length was.length t.length lv s) := hide ⟨⟨by omega, by omega⟩, ⟨hl0, hl1⟩, hs⟩
      have H1 := hide h1
      have H2 := hide h2
      have HL := hide e2
      have HLL := hide e0
      have HLS := hide (fun W => levelSide_any lv hl0 W)
      have hes := Br.es_cases lv
      obtain ⟨ii, hii, hy0, hy1, hy2⟩ := info_parts infoInt
      have HII := hide hii
      have HY0 := hide hy0
      have HY1 := hide hy1
      have HY2 := hide hy2
      have HS12 := hide hs
      clear h0 h1 h2 hf hm hii hy0 hy1 hy2 e0 e1 e2
      have hsb : (s != 1 && s != 2) = false := by rcases hs with rfl | rfl <;> rfl
      have hsb' : ((s != 1) = false) ∨ ((s != 1) = true ∧ (s != 2) = false) := by rcases hs with rfl | rfl <;> decide
      clear hs
      go_enter Tryd.func15, Tryd.ntmps15
      rcases hsb' with hs1 | ⟨hs1, hs2⟩
      all_goals
        go_wp2_with fail
        refine HPR.out.mono ?_
        rintro e w1 ⟨ap, cp, rfl, hpp, hb1⟩
        have HPP := hide hpp
        have HB1 := hide hb1
        have hpm := hpp.max
        have hpl := hpp.le
        unfold maxLen at hpm
        have HPL : Hid (∀ j, j < (Br.PP l t).length → ((Br.PP l t).getD j (0, 0)).1 < ((Br.PP l t).getD j (0, 0)).2 ∧ ((Br.PP l t).getD j (0, 0)).2 < n0) := hide fun j hj => by have := Br.PP_lt hj; rw [HLL.out] at this; exact this
        have HTP : Hid (∀ j, j < (Br.PP l t).length → (Br.PP l t).take (j + 1) = (Br.PP l t).take j ++ [(Br.PP l t).getD j (0, 0)]) := hide fun j hj => Br.take_pair hj
        have HTA : Hid ((Br.PP l t).take (Br.PP l t).length = Br.PP l t) := hide (List.take_of_length_le (Nat.le_refl _))
        have HOK : Hid (t.all Br.may = true → Br.RA l was t lv s = (0, Br.rs was (Br.es lv) s t (Br.PP l t))) := hide fun h => Br.RA_ok HARG.out h
        generalize hPS : Br.PP l t = PS at *
        generalize hPN : PS.length = pn at *
        clear hpp hb1 HPR hPS
        go_wp2
        go_loopw [53] (fun v wr => ∃ k : Nat, v = .int .i64 (k : Int) ∧ k ≤ n0 ∧ Hid (∀ i, i < k → Br.may (t.getD i 0) = true) ∧ w1 = wr) (fun v _ => n0 - (intOf v).toNat)
        case atStart => exact ⟨0, rfl, Nat.zero_le _, hide (fun i hi => by omega), rfl⟩
        case round =>
          obtain ⟨k, rfl, hk, HM, rfl⟩ := hrel
          by_cases hlt : k < n0
          · have hlt' : (k : Int) < (n0 : Int) := by omega
            obtain ⟨b, off, eb, hb, hc⟩ := (H2.out.below HB1.out).cells (by omega)
            have gk := hc k (by rw [HL.out]; exact hlt)
            subst eb
            have HMB := hide (mayBe_any (t.getD k 0) w1)
            clear hc hb
            cases hmay : Br.may (t.getD k 0) with
            | true =>
              have HM2 : Hid (∀ i, i < k + 1 → Br.may (t.getD i 0) = true) := hide fun i hi => by
                rcases Nat.lt_succ_iff_lt_or_eq.1 hi with h | h
                · exact HM.out i h
                · rw [h]; exact hmay
              rw [hmay] at HMB
              clear HM hmay
              generalize t.getD k 0 = x at *
              go_wp2_with (go_at_call 26; refine HMB.out.mono ?_; rintro e w' ⟨rfl, rfl⟩)
              go_roundw
              case rel => exact ⟨k + 1, by go_num, by omega, HM2, trivial⟩
              case measure => simp [intOf]; omega
            | false =>
              have HF := hide (Br.RA_form HARG.out (Br.all_no (by rw [HL.out]; exact hlt) hmay))
              rw [hmay] at HMB
              clear HM hmay
              generalize t.getD k 0 = x at *
              go_wp2_with (go_at_call 26; refine HMB.out.mono ?_; rintro e w' ⟨rfl, rfl⟩)
              go_ret2
              exact R10.err HF.out HB1.out
          · obtain rfl : k = n0 := by omega
            have hne : ¬ ((k : Int) < (k : Int)) := by omega
            have HR := hide (HOK.out (Br.all_yes (fun i hi => HM.out i (by rw [HL.out] at hi; exact hi))))
            clear HM hlt HOK HARG
            go_wp2_with (at_make; refine wpList_make_full _ rfl _ _ 23 rfl w1.heap.size 3 ii (.int .i64 0) 1 Tryd.underlying23 HII.out HY0.out HY1.out _ _ _ _ k rfl rfl rfl rfl ?b2 ?b3 (Nat.le_refl _) ?_)
            case b2 => rw [HY2.out]; omega
            case b3 => unfold maxLen; omega
            intro w2 hown hgrow
            have hbel := (Below.refl w1.heap.size w1).grown hgrow (Nat.le_refl _) (fun _ h => by cases h)
            obtain ⟨cur, hcg, hcl⟩ : ∃ cur : List Value, w2.heap[w1.heap.size]? = some (.cells cur.toArray 3 (0, 0)) ∧ cur.length = k := ⟨_, block_owns hown, by have := hown.1; rw [Nat.mul_one] at this; exact this⟩
            obtain ⟨w3, hcp, hg3, hb3⟩ := run_copy_ints ((H2.out.below HB1.out).below hbel) hcg hcl hbel (Nat.le_refl _)
            have HO := hide (show OW w1.heap.size w1.heap.size k k t w1 w3 from by
              refine ⟨owns_block hg3 ?_ HL.out ?_ (Nat.le_refl _), hb3⟩
              · rfl
              · unfold maxLen; omega)
            clear hown hgrow hbel hcg hcl hg3 hb3
            go_wp2_with fail
            refine (HLS.out w3).mono ?_
            rintro e w4 ⟨rfl, rfl⟩
            clear hcp HLS
            generalize hEV : Br.es lv = ev at *
            go_wp2
            go_loopw [71] (fun v wr => ∃ j : Nat, v = .int .i64 (j : Int) ∧ j ≤ pn ∧ Hid (OW w1.heap.size w1.heap.size k k (Br.rs was ev s t (PS.take j)) w1 wr)) (fun v _ => pn - (intOf v).toNat)
            case atStart => exact ⟨0, rfl, Nat.zero_le _, HO⟩
            case round =>
              obtain ⟨j, rfl, hj, HJ⟩ := hrel
              clear HO
              by_cases hjn : j < pn
              · have hjn' : (j : Int) < (pn : Int) := by omega
                obtain ⟨b, eb, hb, hc⟩ := (HPP.out.below HJ.out.bel).cells (by omega)
                obtain ⟨t0, t1⟩ := hc j hjn
                subst eb
                obtain ⟨k1, k2⟩ := HPL.out j hjn
                have HSN : Hid (Br.rs was ev s t (PS.take (j + 1)) = Br.one was ev s (Br.rs was ev s t (PS.take j)) (PS.getD j (0, 0))) := hide (by rw [HTP.out j hjn, Br.rs_snoc])
                generalize Br.rs was ev s t (PS.take j) = T at *
                generalize PS.getD j (0, 0) = pp at *
                obtain ⟨x, y⟩ := pp
                simp only at t0 t1 k1 k2
                obtain ⟨g0, g1⟩ := cells2 wr (.int .i64 (x : Int)) (.int .i64 (y : Int)) 42
                have hbw : Below wr.heap.size wr (wr.alloc (.cells #[.int .i64 (x : Int), .int .i64 (y : Int)] 42)) := (Below.refl _ _).alloc (Nat.le_refl _) _
                have HO1 := hide (HJ.out.keep hbw)
                have hgl : w1.heap.size < wr.heap.size := (HJ.out.own.lt _ rfl).2
                have hsz : (wr.alloc (.cells #[.int .i64 (x : Int), .int .i64 (y : Int)] 42)).heap.size = wr.heap.size + 1 := by simp
                have HDR := hide (direction_any (some ⟨w1.heap.size, 0, none⟩) k k T (x, y) ev s _ HO1.out.row (by omega) k1 k2 hes)
                have hblk : (wr.alloc (.cells #[.int .i64 (x : Int), .int .i64 (y : Int)] 42)).heap[wr.heap.size]? = some (.cells #[.int .i64 (x : Int), .int .i64 (y : Int)] 42 (0, 0)) := heap_alloc_last wr _
                have HBLK := hide hblk
                have HSZ := hide hsz
                have HGL := hide hgl
                clear hc hb hbw hblk
                generalize hX : wr.alloc (.cells #[.int .i64 (x : Int), .int .i64 (y : Int)] 42) = X at HO1 HDR HBLK HSZ g0 g1
                clear hsz
                go_wp2_with (first
                  | (refine wpList_store_new wr rfl 42 _ _ rfl rfl #[.int .i64 0, .int .i64 0] #[.int .i64 (x : Int), .int .i64 (y : Int)] rfl rfl (two_info two64 _ _) rfl (two_one64 _ _) ?_))
                refine HDR.out.mono ?_
                rintro e w5 ⟨rfl, hk5⟩
                have HO5 := hide (HO1.out.keep hk5)
                have hblk5 : w5.heap[wr.heap.size]? = some (.cells #[.int .i64 (x : Int), .int .i64 (y : Int)] 42 (0, 0)) := (hk5.block _ (by rw [HSZ.out]; omega)).trans HBLK.out
                have r0 : w5.cell? ⟨wr.heap.size, 0, none⟩ = some (.int .i64 (x : Int)) := cell_of_block hblk5 rfl
                have r1 : w5.cell? ⟨wr.heap.size, 1, none⟩ = some (.int .i64 (y : Int)) := cell_of_block hblk5 rfl
                have HB5 := hide hblk5
                clear hk5 hblk5 HO1 HDR g0 g1 t0 t1 hX HBLK HSZ
                by_cases hd : Br.dr T (x, y) ev s = 0
                · have HN : Hid (Br.rs was ev s t (PS.take (j + 1)) = T) := hide (by rw [HSN.out]; unfold Br.one; rw [if_pos hd])
                  rw [hd]
                  clear HSN hd
                  go_wp2
                  go_roundw
                  case rel => exact ⟨j + 1, by go_num, by omega, by rw [HN.out]; exact HO5⟩
                  case measure => simp [intOf]; omega
                · have HN : Hid (Br.rs was ev s t (PS.take (j + 1)) = Br.give was (Br.give was T (Br.dr T (x, y) ev s) x) (Br.dr T (x, y) ev s) y) := hide (by rw [HSN.out]; unfold Br.one; rw [if_neg hd]; rfl)
                  generalize Br.dr T (x, y) ev s = dd at *
                  have hdb : (dd != 0) = true := bne_iff_ne.2 hd
                  have HG1 := hide (give_any w1.heap.size k k T was a1 c1 x dd w1 w5 HO5.out (H1.out.below HB1.out) (by omega) (by omega))
                  have HG2 := hide (fun T' W' hO => give_any w1.heap.size k k T' was a1 c1 y dd w1 W' hO (H1.out.below HB1.out) (by omega) (by omega))
                  clear HSN hd HO5
                  go_wp2_with fail
                  refine HG1.out.mono ?_
                  rintro e w6 ⟨rfl, hO6, hu6⟩
                  have r2 : w6.cell? ⟨wr.heap.size, 1, none⟩ = some (.int .i64 (y : Int)) := cell_of_block ((hu6 _ (by have := HGL.out; omega)).trans HB5.out) rfl
                  have HO6 := hide hO6
                  clear r0 r1 hO6 hu6 HG1
                  go_wp2_with fail
                  refine (HG2.out _ _ HO6.out).mono ?_
                  rintro e w7 ⟨rfl, hO7, _⟩
                  have HO7 := hide hO7
                  clear hO7 r2 HG2 HO6
                  go_wp2
                  go_roundw
                  case rel => exact ⟨j + 1, by go_num, by omega, by rw [HN.out]; exact HO7⟩
                  case measure => simp [intOf]; omega
              · obtain rfl : j = pn := by omega
                have hne2 : ¬ ((j : Int) < (j : Int)) := by omega
                rw [HTA.out] at HJ
                have HLN : Hid (k = (Br.rs was ev s t PS).length) := hide (by rw [Br.rs_len, HL.out])
                go_wp2
                go_ret2
                rw [HR.out]
                have hr := HJ.out.row
                refine ⟨some ⟨w1.heap.size, 0, none⟩, k, ?_, ?_, KO.on HB1.out HJ.out.bel⟩
                · simp only [← HLN.out]; rfl
                · simp only [← HLN.out]; exact hr
    · have HR := hide (Br.RA_arg (l := l) (was := was) (t := t) (lv := lv) (s := s) (fun h => hN (by have := h.1; omega)))
      have HP := hide (pairs_bad a0 a2 n0 n1 c0 c2 w hN (by omega) (by omega))
      clear h0 h1 h2 hf hm hN
      rcases hs with rfl | rfl
      all_goals
        go_enter Tryd.func15, Tryd.ntmps15
        go_wp2_with fail
        refine HP.out.mono ?_
        rintro e w1 ⟨rfl, rfl⟩
        go_wp2
        go_ret2
        exact R10.err HR.out (KO.refl _)
  · have HR := hide (Br.RA_arg (l := l) (was := was) (t := t) (lv := lv) (s := s) (fun h => hA ⟨by have := h.1; omega, h.2⟩))
    have hc : (¬ n1 = n2) ∨ (n1 = n2 ∧ lv < 0) ∨ (n1 = n2 ∧ ¬ lv < 0 ∧ 126 < lv) ∨ (n1 = n2 ∧ ¬ lv < 0 ∧ ¬ 126 < lv ∧ ¬ s = 1 ∧ ¬ s = 2) := by omega
    clear h0 h1 h2 hf hm hA e0 e1 e2
    rcases hc with q1 | ⟨rfl, q1⟩ | ⟨rfl, q1, q2⟩ | ⟨rfl, q1, q2, q3, q4⟩
    · have qn : ((n1 : Int) != (n2 : Int)) = true := bne_iff_ne.2 (by omega)
      go_enter Tryd.func15, Tryd.ntmps15
      go_wp2
      go_ret2
      exact R10.err HR.out (KO.refl _)
    rotate_left 2
    · have q3b : (s != 1) = true := bne_iff_ne.2 q3
      have q4b : (s != 2) = true := bne_iff_ne.2 q4
      go_enter Tryd.func15, Tryd.ntmps15
      go_wp2
      go_ret2
      exact R10.err HR.out (KO.refl _)
    all_goals
      go_enter Tryd.func15, Tryd.ntmps15
      go_wp2
      go_ret2
      exact R10.err HR.out (KO.refl _)
end Go.Proofs.YtkkmifpdhcdkpaaDoor
