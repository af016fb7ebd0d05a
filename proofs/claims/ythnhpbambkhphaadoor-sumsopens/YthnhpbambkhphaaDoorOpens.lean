/- The walk of the law on what is sealed and opened, against the document. -/
import Derived.Test.YthnhpbambkhphaaDoorWorks
import Derived.Test.YthnhpbambkhphaaDoorRefo
import Derived.Test.YthnhpbambkhphaaDoorSlices
namespace Go.Proofs.YthnhpbambkhphaaDoor
open Go.RowKit
set_option linter.unusedVariables false
/-- What bytes are as something sealed. -/
def goodB (xs : List Int) : Bool := decide (xs.drop (xs.length - 4) = Sums.four (Sums.crc (xs.take (xs.length - 4))))
def opErr (xs : List Int) : Int := if xs.length < 4 then 20 else if goodB xs = true then 0 else 21
def opened (xs : List Int) : List Int := if xs.length < 4 then [] else if goodB xs = true then xs.take (xs.length - 4) else []
theorem goodB_iff (xs : List Int) : goodB xs = true ↔ good xs := by unfold goodB good; simp
theorem opened_bytes {xs : List Int} (h : Bytes xs) : Bytes (opened xs) := by
  unfold opened
  split
  · exact Bytes.nil
  · split
    · exact h.take _
    · exact Bytes.nil
theorem opened_le (xs : List Int) : (opened xs).length ≤ xs.length := by
  unfold opened
  split
  · simp
  · split
    · rw [List.length_take]; omega
    · simp
theorem open_any (ao : Option Addr) (n cap : Nat) (xs : List Int) (w : World) (h : Row .u8 w ao n cap xs) (hb : Bytes xs) (ht : Tab w) (hsz : n ≤ 140737488351248) :
    Calls Tryd.prog 12 #[.slice ao n cap] w fun e w' => ∃ v, e = .returned (.tuple #[v, .int .i64 (opErr xs)]) ∧ w'.ownsRow w.heap.size 5 1 v (opened xs).length ((opened xs).map (Value.int .u8)) ∧ Below w.heap.size w w' := by
  have hl := h.len
  by_cases hn : n < 4
  · refine (open_short ao n cap xs w h hn).mono ?_
    rintro e w' ⟨rfl, rfl⟩
    have e1 : opErr xs = 20 := by unfold opErr; rw [if_pos (by omega)]
    have e2 : opened xs = [] := by unfold opened; rw [if_pos (by omega)]
    rw [e1, e2]
    exact ⟨_, rfl, World.ownsRow_nil _ _ _ _, Below.refl _ _⟩
  · by_cases hg : good xs
    · refine (open_good ao n cap xs w h hb ht (by omega) hsz hg).mono ?_
      rintro e w' ⟨v, rfl, ho, hb'⟩
      have e1 : opErr xs = 0 := by unfold opErr; rw [if_neg (by omega), if_pos ((goodB_iff xs).2 hg)]
      have e2 : opened xs = xs.take (n - 4) := by unfold opened; rw [if_neg (by omega), if_pos ((goodB_iff xs).2 hg), hl]
      have e3 : (xs.take (n - 4)).length = n - 4 := by rw [List.length_take]; omega
      rw [e1, e2, e3]
      exact ⟨_, rfl, ho, hb'⟩
    · refine (open_bad ao n cap xs w h hb ht (by omega) hg).mono ?_
      rintro e w' ⟨rfl, hb'⟩
      have hg' : ¬ goodB xs = true := fun h => hg ((goodB_iff xs).1 h)
      have e1 : opErr xs = 21 := by unfold opErr; rw [if_neg (by omega), if_neg hg']
      have e2 : opened xs = [] := by unfold opened; rw [if_neg (by omega), if_neg hg']
      rw [e1, e2]
      exact ⟨_, rfl, World.ownsRow_nil _ _ _ _, hb'⟩
theorem ropen_any (ao : Option Addr) (n cap : Nat) (xs : List Int) (w : World) (h : Row .u8 w ao n cap xs) (hb : Bytes xs) (hsz : n ≤ 140737488351240) :
    Calls Tryd.prog 13 #[.slice ao n cap] w fun e w' => ∃ a2 c2, e = .returned (.tuple #[.slice a2 (opened xs).length c2, .int .i64 (opErr xs)]) ∧ Row .u8 w' a2 (opened xs).length c2 (opened xs) ∧ Below w.heap.size w w' := by
  have hl := h.len
  by_cases hn : n < 4
  · refine (ropen_short ao n cap xs w h hn).mono ?_
    rintro e w' ⟨rfl, rfl⟩
    have e1 : opErr xs = 20 := by unfold opErr; rw [if_pos (by omega)]
    have e2 : opened xs = [] := by unfold opened; rw [if_pos (by omega)]
    rw [e1, e2]
    exact ⟨_, _, rfl, row_nil .u8 _, Below.refl _ _⟩
  · by_cases hg : good xs
    · refine (ropen_good ao n cap xs w h hb (by omega) hsz hg).mono ?_
      rintro e w' ⟨rfl, hb'⟩
      have e1 : opErr xs = 0 := by unfold opErr; rw [if_neg (by omega), if_pos ((goodB_iff xs).2 hg)]
      have e2 : opened xs = xs.take (n - 4) := by unfold opened; rw [if_neg (by omega), if_pos ((goodB_iff xs).2 hg), hl]
      have e3 : (xs.take (n - 4)).length = n - 4 := by rw [List.length_take]; omega
      rw [e1, e2, e3]
      exact ⟨_, _, rfl, (h.below hb').take (by omega), hb'⟩
    · refine (ropen_bad ao n cap xs w h hb (by omega) hsz hg).mono ?_
      rintro e w' ⟨rfl, hb'⟩
      have hg' : ¬ goodB xs = true := fun h => hg ((goodB_iff xs).1 h)
      have e1 : opErr xs = 21 := by unfold opErr; rw [if_neg (by omega), if_neg hg']
      have e2 : opened xs = [] := by unfold opened; rw [if_neg (by omega), if_neg hg']
      rw [e1, e2]
      exact ⟨_, _, rfl, row_nil .u8 _, hb'⟩
set_option maxHeartbeats 4000000 in
theorem SumsOpens_walk (w : World) (ht : Tab w) (a0 : Option Addr) (n0 cap0 : Nat) (xs : List Int) (h0 : Row .u8 w a0 n0 cap0 xs) (hf0 : ∀ x ∈ xs, (Lit.int .u8 x).wf = true) (hs0 : n0 * 1 ≤ 140737488351232) :
    Calls Tryd.prog 4 #[.slice a0 n0 cap0] w fun e w' => e = .returned (.bool true) ∧ Below w.heap.size w w' := by
  have HBY := hide (Bytes.of_wf hf0)
  have HT := hide ht
  have H0 := hide h0
  have L0 := hide h0.len
  obtain ⟨i5, hi, hz0, hz1, hz2⟩ := info_parts info5
  have HI : Hid (Tryd.prog.info? 5 = some i5) := hi
  have HZ0 := hide hz0
  have HZ1 := hide hz1
  have HZ2 := hide hz2
  have HR := hide (h0.below ((Below.refl w.heap.size w).alloc (Nat.le_refl _) (.cells #[] 5)))
  clear h0 hf0 ht hi hz0 hz1 hz2
  go_enter Tryd.func4, Tryd.ntmps4
  go_wp2_with (at_builtin; refine wpList_append_row _ (by rfl) (.tmp 10) (.tmp 11) 22 rfl w.heap.size 5 i5 (.int .u8 0) 1 Tryd.underlying22 HI.out HZ0.out HZ1.out HZ2.out rfl _ 0 [] rfl (owns_empty w 5 _ rfl) .u8 a0 n0 cap0 xs rfl HR.out ?c1 (by omega) ?c2 ?_)
  case c1 => omega
  case c2 => simp
  intro v1 w1 ho1 hb1
  have HO1 : Hid (w1.ownsRow w.heap.size 5 1 v1 n0 (xs.map (Value.int .u8))) := by simpa [Hid] using ho1
  have HB1 := hide (((Below.refl w.heap.size w).alloc (Nat.le_refl _) (.cells #[] 5)).trans hb1)
  have HL := hide (row_lit .u8 w1 [7, 7, 7, 7, 7] 5 (by unfold maxLen; simp))
  clear ho1 hb1 HR
  go_wp2_with (at_builtin; refine wpList_append_row _ (by rfl) (.tmp 12) (.tmp 13) 22 rfl w.heap.size 5 i5 (.int .u8 0) 1 Tryd.underlying22 HI.out HZ0.out HZ1.out HZ2.out rfl _ n0 _ rfl (HO1.out.alloc _) .u8 _ 5 5 [7, 7, 7, 7, 7] rfl HL.out ?d1 (by omega) ?d2 ?_)
  case d1 => omega
  case d2 => have := HB1.out.size; simp; omega
  intro v2 w2 ho2 hb2
  have ho2' : w2.ownsRow w.heap.size 5 1 v2 (n0 + 5) ((xs ++ [7, 7, 7, 7, 7]).map (Value.int .u8)) := by simpa using ho2
  have HB2 := hide ((HB1.out.alloc HB1.out.size _).trans hb2)
  obtain ⟨g, c2, rfl, hg1, hg2⟩ := ho2'.form (by omega)
  obtain ⟨a2, c2', e2, hr2⟩ := row_of_owns ho2'
  simp only [Value.slice.injEq, true_and] at e2
  obtain ⟨rfl, rfl⟩ := e2
  have hcl := hr2.le
  have hcm := hr2.max
  unfold maxLen at hcm
  have HRA := hide hr2
  have HRX : Hid (Row .u8 w2 (some ⟨g, 0, none⟩) n0 c2 xs) := by
    have := hr2.take (e := n0) (by omega)
    rw [List.take_left' L0.out] at this
    exact this
  clear ho2 ho2' hb2 hr2 HO1 HL
  go_wp2_with fail
  refine (seal_any _ _ _ _ _ HRX.out HBY.out (HT.out.below HB2.out) (by omega)).mono ?_
  rintro e w3 ⟨v3, rfl, ho3, hb3⟩
  obtain ⟨a3, c3, rfl, hr3⟩ := row_of_owns ho3
  have HR3 := hide hr3
  have HG3 := hide hb3
  have HB3 := hide (HB2.out.trans (hb3.mono HB2.out.size))
  clear ho3 hr3 hb3
  go_wp2_with fail
  refine (open_any _ _ _ _ _ (HRX.out.below HG3.out) HBY.out (HT.out.below HB3.out) (by omega)).mono ?_
  rintro e w4 ⟨v4, rfl, ho4, hb4⟩
  obtain ⟨a4, c4, rfl, hr4⟩ := row_of_owns ho4
  have HO4 := hide ho4
  have HR4 := hide hr4
  have HG4 := hide hb4
  have HB4 := hide (HB3.out.trans (hb4.mono HB3.out.size))
  clear ho4 hr4 hb4
  go_wp2_with fail
  refine (ropen_any _ _ _ _ _ (H0.out.below HB4.out) HBY.out (by omega)).mono ?_
  rintro e w5 ⟨a5, c5, rfl, hr5, hb5⟩
  have HY4 := hide (opened_bytes HBY.out)
  have HYS := hide (Sums.sealed_bytes HBY.out)
  have hop := opened_le xs
  rw [L0.out] at hop
  have HG5 := hide (HG4.out.trans (hb5.mono HG4.out.size))
  have HB5 := hide (HB4.out.trans (hb5.mono HB4.out.size))
  have HR5 := hide hr5
  have HO5 := hide (owns_below HO4.out hb5)
  have hs := fun w' (hk : KO w5 w') => run_str w' _ _ _ _ ((HR3.out.below HG5.out).below hk) HYS.out
  have hc := fun w' (hk : KO w5 w') => run_str w' _ _ _ _ ((HR4.out.below hb5).below hk) HY4.out
  have hd := fun w' (hk : KO w5 w') => run_str w' _ _ _ _ (HR5.out.below hk) HY4.out
  have ho := fun w' (hk : KO w5 w') => run_str w' _ _ _ _ (((HRX.out.below HG3.out).below HG5.out).below hk) HBY.out
  have hb := fun w' (hk : KO w5 w') => run_str w' _ _ _ _ ((H0.out.below HB5.out).below hk) HBY.out
  have hcell : ∀ w', KO w5 w' → w'.cell? ⟨g, n0, none⟩ = some (.int .u8 7) := fun w' hk => by
    obtain ⟨b', o', e', _, hcc⟩ := ((HRA.out.below HG3.out).below HG5.out |>.below hk).cells (by omega)
    simp at e'
    obtain ⟨rfl, rfl⟩ := e'
    have := hcc n0 (by simp [L0.out])
    rw [show n0 = xs.length + 0 from by rw [L0.out]; rfl, getD_right] at this
    simpa [L0.out] using this
  have hsl : ∀ w', (Instr.slice 22 (.slice (some ⟨g, 0, none⟩) n0 c2) none (some (.int .i64 ((n0 : Int) + 1))) none).run Tryd.prog w' = .ok (.slice (some ⟨g, 0, none⟩) (n0 + 1) c2) w' :=
    fun w' => run_upto Tryd.underlying22 HI.out cells5 (some ⟨g, 0, none⟩) n0 c2 (n0 + 1) (by omega) w'
  have HSE := hide (fun w' (hk : KO w5 w') => rseal_any _ _ _ _ w' ((H0.out.below HB5.out).below hk) HBY.out (by omega))
  have hK : KO w5 w5 := Below.refl _ _
  clear hr5 hb5 HR3 HR4 HR5 HO4
  generalize hT1 : str (Sums.sealed xs) = t1 at *
  have HT1 := hide hT1
  clear hT1
  generalize str (opened xs) = t2 at *
  generalize str xs = t3 at *
  generalize opErr xs = er at *
  generalize opened xs = ys at *
  have hwr : IntKind.i64.wrap ((n0 : Int) + 1) = (n0 : Int) + 1 := IntWalk.i64_in _ (by omega)
  have hix : (n0 : Int) < (n0 : Int) + 1 := by omega
  go_wp2
  refine wp_region_noPanic ?_
  go_region_held (fun w' => KO w5 w') (first | exact KO.drew hK | assumption)
    (first | (go_at_call 14; refine (HSE.out _ (by assumption)).mono ?_; rintro e w' ⟨v6, rfl, ho6, hb6⟩; obtain ⟨a6, c6, rfl, hr6⟩ := row_of_owns ho6; have hrf := run_str _ _ _ _ _ hr6 HYS.out; rw [HT1.out] at hrf; have hk6 : KO w5 w' := Below.trans (by assumption) (hb6.mono (by have : KO w5 _ := (by assumption); exact this.size))))
  all_goals
    refine NoPanic.normal ?_
    have HO6 := hide (owns_below HO5.out hk6)
    have HG6 := hide (HG5.out.trans (Below.mono hk6 HG5.out.size))
    have HRO := hide (HRX.out.below HG3.out)
    clear hK hb6 hr6 hrf hk6 hs hc hd ho hb hcell hsl HSE hwr hix HO5 HYS HT1
    generalize hL : ys.length = m at *
    have HL := hide hL
    clear hL
    go_wp2
    go_loopw [9] (fun i wr => ∃ (q : Nat) (zs : List Int), q ≤ m ∧ i = .int .i64 q ∧ Hid (wr.ownsRow w3.heap.size 5 1 (.slice a4 m c4) m (zs.map (Value.int .u8))) ∧ Hid (Below w3.heap.size w3 wr)) (fun i _ => m - (intOf i).toNat)
    case atStart => exact ⟨0, ys, Nat.zero_le _, rfl, HO6, HG6⟩
    case round =>
      obtain ⟨q, zs, hq, rfl, hown, hbel⟩ := hrel
      by_cases hqm : q < m
      · obtain ⟨g4, c4', e4, hg41, hg42⟩ := hown.out.form (by omega)
        simp only [Value.slice.injEq, true_and] at e4
        obtain ⟨rfl, rfl⟩ := e4
        have hcell := owns_cell hown.out q hqm
        have hfro := hown.out.frozenAt q
        generalize zs.getD q 0 = x at *
        go_wp2
        go_roundw
        case rel => exact ⟨q + 1, zs.set q _, by omega, by go_num, owns_set hown.out q _, hbel.out.setCell (p := ⟨g4, q, none⟩) hg41 _⟩
        case measure => simp [intOf]; omega
      · have hqo := run_str _ _ _ _ _ (HRO.out.below hbel.out) HBY.out
        have HBW := hide (HB3.out.trans (hbel.out.mono HB3.out.size))
        have hqb := run_str _ _ _ _ _ (H0.out.below HBW.out) HBY.out
        generalize str xs = t4 at *
        go_wp2_with (first | (go_at_call 8; refine (names_any _).mono ?_; rintro e w' ⟨rfl, rfl⟩))
        go_ret
        exact ⟨rfl, HBW.out⟩
end Go.Proofs.YthnhpbambkhphaaDoor
