/- Match: which PDI belongs to which initiator. -/
import Derived.Test.YthohbiklnknofaaTurn
import Derived.Test.YthohbiklnknofaaCopy
import Derived.Test.YthohbiklnknofaaSlices
import Derived.WalkSmall
namespace Go.Proofs.Ythohbiklnknofaa
open Go.RowKit
set_option linter.unusedVariables false
set_option maxHeartbeats 1000000
set_option maxRecDepth 100000
theorem infoInt : (Try.prog.info? 3).map (fun i => (i.zero, i.size, i.bytes)) = some (some (.int .i64 0), 1, 8) := by kernel_rfl
theorem cellsInt : Try.prog.cellsOf 3 = 1 := by kernel_rfl
theorem owns_keep {w w' : World} {base e size n cap g : Nat} {xs : List Value} (h : w.ownsRow base e size (.slice (some ⟨g, 0, none⟩) n cap) n xs) {B : Nat} (hb : Below B w w') (hg : g < B) : w'.ownsRow base e size (.slice (some ⟨g, 0, none⟩) n cap) n xs := by
  refine ⟨h.1, ?_⟩
  rcases h.2 with ⟨h0, _⟩ | ⟨g', cap', cur, hv, hbs, hh, rest⟩
  · cases h0
  · cases hv
    exact .inr ⟨g, cap, cur, rfl, hbs, (hb.block g hg).trans hh, rest⟩
/-- The initiators that wait, as a list of numbers. -/
def wl (s : List Nat) : List Int := s.reverse.map fun (i : Nat) => (i : Int)
theorem wl_push (s : List Nat) (k : Nat) : wl (k :: s) = wl s ++ [(k : Int)] := by simp [wl]
theorem wl_len (s : List Nat) : (wl s).length = s.length := by simp [wl]
structure MI (w : World) (c : List Int) (n k : Nat) (sv : Value) (wr : World) : Prop where
  own : wr.ownsRow w.heap.size 3 1 (.slice (some ⟨w.heap.size, 0, none⟩) n n) n ((Iso.ML c k).map (Value.int .i64))
  wait : wr.ownsRow (w.heap.size + 1) 3 1 sv (Iso.stk c k).length ((wl (Iso.stk c k)).map (Value.int .i64))
  bel : Below w.heap.size w wr
theorem owns_form {w : World} {base e size n : Nat} {v : Value} {xs : List Value} (h : w.ownsRow base e size v n xs) : ∃ a cap, v = .slice a n cap ∧ n ≤ cap := by
  rcases h.2 with ⟨rfl, rfl⟩ | ⟨g, cap, cur, rfl, _, _, hle, _⟩
  · exact ⟨none, 0, rfl, Nat.le_refl _⟩
  · exact ⟨_, cap, rfl, hle⟩
theorem owns_pos {w : World} {base e size n : Nat} {v : Value} {xs : List Value} (h : w.ownsRow base e size v n xs) (hn : 0 < n) : ∃ g cap, v = .slice (some ⟨g, 0, none⟩) n cap ∧ base ≤ g ∧ n ≤ cap := by
  rcases h.2 with ⟨rfl, rfl⟩ | ⟨g, cap, cur, rfl, hb, _, hle, _⟩
  · omega
  · exact ⟨g, cap, rfl, hb, hle⟩
theorem row_one (w : World) (s : Nat) (hs : w.heap.size = s) (k : Int) : Row .i64 (w.alloc (.cells #[.int .i64 k] 3)) (some ⟨s, 0, none⟩) 1 1 [k] := by
  subst hs; exact row_lit .i64 w [k] 3 (by unfold maxLen; simp)
theorem size_set (w : World) (p : Addr) (v : Value) : (w.setCell p v).heap.size = w.heap.size := by simp [World.setCell]
theorem MI.set {w : World} {c : List Int} {n k : Nat} {sv : Value} {wr : World} (h : MI w c n k sv wr) (hk : k < n) (y : Int) : (wr.setCell ⟨w.heap.size, k, none⟩ (.int .i64 y)).ownsRow w.heap.size 3 1 (.slice (some ⟨w.heap.size, 0, none⟩) n n) n (((Iso.ML c k).set k y).map (Value.int .i64)) := owns_set h.own k y
theorem MI.init {w : World} {c : List Int} {n k : Nat} {sv : Value} {wr : World} (h : MI w c n k sv wr) (hk : k < n) (hl : c.length = n) (hs : Iso.st (c.getD k 0) = true) {o : Obj} {v2 : Value} {w2 : World}
    (hb : Below (w.heap.size + 1) (((wr.setCell ⟨w.heap.size, k, none⟩ (.int .i64 (k : Int))).setCell ⟨w.heap.size, k, none⟩ (.int .i64 (n : Int))).alloc o) w2)
    (ho : w2.ownsRow (w.heap.size + 1) 3 1 v2 ((Iso.stk c k).length + 1) ((wl (Iso.stk c k)).map (Value.int .i64) ++ [(k : Int)].map (Value.int .i64))) : MI w c n (k + 1) v2 w2 := by
  have h1 := owns_set (owns_set h.own k (k : Int)) k (n : Int)
  rw [List.set_set, ← hl, ← Iso.ML_init (by omega) hs, hl] at h1
  refine ⟨owns_keep (h1.alloc o) hb (by omega), ?_, ?_⟩
  · rw [Iso.stk_init c k hs, wl_push, List.map_append]; exact ho
  · have hsz : w.heap.size ≤ wr.heap.size := h.bel.size
    exact ((((h.bel.setCell (p := ⟨w.heap.size, k, none⟩) (Nat.le_refl _) _).setCell (p := ⟨w.heap.size, k, none⟩) (Nat.le_refl _) _).alloc (by simp [World.setCell]; exact hsz) o)).trans (hb.mono (by omega))
theorem MI.plain {w : World} {c : List Int} {n k : Nat} {sv : Value} {wr : World} (h : MI w c n k sv wr) (hk : k < n) (hl : c.length = n) (hs : ¬ Iso.st (c.getD k 0) = true) (hx : ¬ c.getD k 0 = 23) :
    MI w c n (k + 1) sv (wr.setCell ⟨w.heap.size, k, none⟩ (.int .i64 (k : Int))) := by
  have h1 := owns_set h.own k (k : Int)
  rw [← Iso.ML_plain (by omega) hs hx] at h1
  have h2 := ownsRow_setCell_below h.wait (a := ⟨w.heap.size, k, none⟩) (Nat.lt_succ_self _) (.int .i64 (k : Int))
  have h3 : Iso.stk c (k + 1) = Iso.stk c k := by rw [Iso.stk, Iso.push, if_neg hs, if_neg hx]
  exact ⟨h1, by rw [h3]; exact h2, h.bel.setCell (p := ⟨w.heap.size, k, none⟩) (Nat.le_refl _) _⟩
theorem MI.alone {w : World} {c : List Int} {n k : Nat} {sv : Value} {wr : World} (h : MI w c n k sv wr) (hk : k < n) (hl : c.length = n) (hx : c.getD k 0 = 23) (h0 : Iso.stk c k = []) :
    MI w c n (k + 1) sv ((wr.setCell ⟨w.heap.size, k, none⟩ (.int .i64 (k : Int))).setCell ⟨w.heap.size, k, none⟩ (.int .i64 (-1))) := by
  have h1 := owns_set (owns_set h.own k (k : Int)) k (-1)
  rw [List.set_set, ← Iso.ML_alone (by omega) hx h0] at h1
  have h2 := ownsRow_setCell_below (ownsRow_setCell_below h.wait (a := ⟨w.heap.size, k, none⟩) (Nat.lt_succ_self _) (.int .i64 (k : Int))) (a := ⟨w.heap.size, k, none⟩) (Nat.lt_succ_self _) (.int .i64 (-1))
  have h3 : Iso.stk c (k + 1) = Iso.stk c k := by rw [Iso.stk, Iso.push, hx, if_neg (by decide), if_pos rfl, h0]; rfl
  exact ⟨h1, by rw [h3]; exact h2, (h.bel.setCell (p := ⟨w.heap.size, k, none⟩) (Nat.le_refl _) _).setCell (p := ⟨w.heap.size, k, none⟩) (Nat.le_refl _) _⟩
theorem MI.pair {w : World} {c : List Int} {n k i g cp : Nat} {s : List Nat} {wr : World} (h : MI w c n k (.slice (some ⟨g, 0, none⟩) (s.length + 1) cp) wr) (hk : k < n) (hl : c.length = n) (hx : c.getD k 0 = 23) (h0 : Iso.stk c k = i :: s) :
    MI w c n (k + 1) (.slice (some ⟨g, 0, none⟩) s.length cp) (((wr.setCell ⟨w.heap.size, k, none⟩ (.int .i64 (k : Int))).setCell ⟨w.heap.size, k, none⟩ (.int .i64 (i : Int))).setCell ⟨w.heap.size, i, none⟩ (.int .i64 (k : Int))) := by
  have h1 := owns_set (owns_set (owns_set h.own k (k : Int)) k (i : Int)) i (k : Int)
  rw [List.set_set, ← (Iso.ML_pair (by omega) hx h0).2] at h1
  have hw := h.wait
  rw [h0, wl_push, List.map_append, List.length_cons] at hw
  have h2 := ownsRow_pop (by rw [List.length_map, wl_len, Nat.mul_one]) hw
  have h3 : Iso.stk c (k + 1) = s := by rw [Iso.stk, Iso.push, hx, if_neg (by decide), if_pos rfl, h0]; rfl
  have h4 := ownsRow_setCell_below (ownsRow_setCell_below (ownsRow_setCell_below h2 (a := ⟨w.heap.size, k, none⟩) (Nat.lt_succ_self _) (.int .i64 (k : Int))) (a := ⟨w.heap.size, k, none⟩) (Nat.lt_succ_self _) (.int .i64 (i : Int))) (a := ⟨w.heap.size, i, none⟩) (Nat.lt_succ_self _) (.int .i64 (k : Int))
  exact ⟨h1, by rw [h3]; exact h4, ((h.bel.setCell (p := ⟨w.heap.size, k, none⟩) (Nat.le_refl _) _).setCell (p := ⟨w.heap.size, k, none⟩) (Nat.le_refl _) _).setCell (p := ⟨w.heap.size, i, none⟩) (Nat.le_refl _) _⟩
theorem MI.drew {w : World} {c : List Int} {n k : Nat} {sv : Value} {wr : World} (h : MI w c n k sv wr) : MI w c n k sv wr.drew := ⟨h.own.drew, h.wait.drew, h.bel.drew⟩
theorem MI.top {w : World} {c : List Int} {n k i g cp : Nat} {s : List Nat} {wr : World} (h : MI w c n k (.slice (some ⟨g, 0, none⟩) (s.length + 1) cp) wr) (h0 : Iso.stk c k = i :: s) : w.heap.size < g ∧ wr.cell? ⟨g, s.length, none⟩ = some (.int .i64 (i : Int)) := by
  have hw := h.wait
  have hb := (hw.lt g rfl).1
  refine ⟨by omega, ?_⟩
  rw [h0, List.length_cons] at hw
  rw [owns_cell hw s.length (by omega)]
  simp [wl, List.getD]
theorem match_any (ao : Option Addr) (n cap : Nat) (c : List Int) (w : World) (h : Row .i64 w ao n cap c) (hn : n * 8 ≤ 140737488351232) :
    Calls Try.prog 17 #[.slice ao n cap] w fun e w' => e = .returned (.slice (some ⟨w.heap.size, 0, none⟩) n n) ∧ w'.ownsRow w.heap.size 3 1 (.slice (some ⟨w.heap.size, 0, none⟩) n n) n ((Iso.MT c).map (Value.int .i64)) ∧ Below w.heap.size w w' := by
  obtain ⟨ii, hii, hy0, hy1, hy2⟩ := info_parts infoInt
  have HII : Hid (Try.prog.info? 3 = some ii) := hii
  have HY0 := hide hy0
  have HY1 := hide hy1
  have HY2 := hide hy2
  have H := hide h
  have HL := hide h.len
  have HN := hide hn
  have hn2 : n ≤ 17592186044416 := by omega
  clear h hn hii hy0 hy1 hy2
  go_enter Try.func17, Try.ntmps17
  go_wp2_with (at_make; refine wpList_make_full _ rfl _ _ 22 rfl w.heap.size 3 ii (.int .i64 0) 1 Try.underlying22 HII.out HY0.out HY1.out _ _ _ _ n rfl rfl rfl rfl ?b2 ?b3 (Nat.le_refl _) ?_)
  case b2 => rw [HY2.out]; omega
  case b3 => unfold maxLen; omega
  intro w1 hown hgrow
  have hbel := (Below.refl w.heap.size w).grown hgrow (Nat.le_refl _) (fun _ h => by cases h)
  have HO : Hid (MI w c n 0 (.slice none 0 0) w1) := by
    refine ⟨?_, World.ownsRow_nil _ _ _ _, hbel⟩
    have e : (madeCells #[Value.int .i64 0] n).toList = (Iso.ML c 0).map (Value.int .i64) := by
      rw [Iso.ML_zero, HL.out]
      simp [toList_madeCells_one]
    rw [← e]
    simpa using hown
  clear hown hgrow hbel
  go_wp2
  go_loopw [4, 13] (fun sv i wr => ∃ k : Nat, k ≤ n ∧ i = .int .i64 k ∧ Hid (MI w c n k sv wr)) (fun _ i _ => n - (intOf i).toNat)
  case atStart => exact ⟨0, Nat.zero_le _, rfl, HO⟩
  case round =>
    obtain ⟨k, hk, rfl, hm⟩ := hrel
    by_cases hlt : k < n
    · have hkl : k < c.length := by rw [HL.out]; exact hlt
      obtain ⟨b, off, rfl, hbl, hc⟩ := H.out.cells (by omega)
      have ck : wr.cell? ⟨b, off + k, none⟩ = some (.int .i64 (c.getD k 0)) := (hm.out.bel.cell (by exact hbl)).trans (hc k hkl)
      have HT := hide (fun w' => turn_any (c.getD k 0) w')
      have co := owns_cell hm.out.own k hlt
      have hfz := hm.out.own.frozenAt k
      generalize (Iso.ML c k).getD k 0 = old at co
      have hin : (k : Int) < (n : Int) := by omega
      have hszw : w.heap.size < wr.heap.size := (hm.out.own.lt w.heap.size rfl).2
      have hgb : ¬ w.heap.size = b := by have hbl2 : b < w.heap.size := hbl; omega
      have HA := hide (hm.out.set hlt (k : Int))
      clear hc
      by_cases hs : Iso.st (c.getD k 0) = true
      · have ht : Iso.turn (c.getD k 0) = 1 := by unfold Iso.turn; rw [if_pos hs]
        rw [ht] at HT
        have HI := hide (fun (o : Obj) (v2 : Value) (w2 : World) => hm.out.init (o := o) (v2 := v2) (w2 := w2) hlt HL.out hs)
        have HW := hide hm.out.wait
        obtain ⟨a4, c4, rfl, hle4⟩ := owns_form hm.out.wait
        have hss := Iso.stk_size c k
        generalize (Iso.stk c k).length = L at *
        generalize c.getD k 0 = x at *
        clear hm ht hs hkl HA
        go_wp2_with (first
          | (go_at_call 35; refine (HT.out _).mono ?_; rintro e w' ⟨rfl, rfl⟩)
          | (at_builtin; refine wpList_append_row _ rfl (.tmp 31) (.tmp 33) 22 rfl (w.heap.size + 1) 3 ii (.int .i64 0) 8 Try.underlying22 HII.out HY0.out HY1.out HY2.out rfl _ L _ rfl ((ownsRow_setCell_below (ownsRow_setCell_below HW.out (Nat.lt_succ_self _) _) (Nat.lt_succ_self _) _).alloc _) .i64 _ 1 1 [(k : Int)] rfl (row_one _ wr.heap.size (by rw [size_set, size_set]) (k : Int)) (by omega) (by omega) (by simp; omega) ?_; intro v2 w2 hown2 hb2))
        have HM := hide (HI.out _ v2 w2 hb2 hown2)
        clear hown2 hb2 HI HW
        go_wp2
        go_roundw
        case rel => exact ⟨k + 1, by omega, by go_num, HM⟩
        case measure => simp [intOf]; omega
      · by_cases hx : c.getD k 0 = 23
        · have ht : Iso.turn (c.getD k 0) = -1 := by unfold Iso.turn; rw [if_neg hs, if_pos hx]
          rw [ht] at HT
          cases h0 : Iso.stk c k with
          | nil =>
            have HM := hide (hm.out.alone hlt HL.out hx h0)
            obtain ⟨a4, c4, e4, hle4⟩ := owns_form hm.out.wait
            rw [h0, List.length_nil] at e4
            subst e4
            generalize c.getD k 0 = x at *
            clear hm ht hs hkl HA h0 hx
            go_wp2_with (go_at_call 35; refine (HT.out _).mono ?_; rintro e w' ⟨rfl, rfl⟩)
            go_roundw
            case rel => exact ⟨k + 1, by omega, by go_num, HM⟩
            case measure => simp [intOf]; omega
          | cons i s =>
            obtain ⟨g, c4, e4, hgl, hle4⟩ := owns_pos hm.out.wait (by rw [h0]; simp)
            rw [h0, List.length_cons] at e4 hle4
            subst e4
            have HM := hide (hm.out.pair hlt HL.out hx h0)
            obtain ⟨hg1, ct⟩ := hm.out.top h0
            have hi := (Iso.ML_pair hkl hx h0).1
            have ci := owns_cell hm.out.own i (by omega)
            have hfi := hm.out.own.frozenAt i
            generalize (Iso.ML c k).getD i 0 = oldi at ci
            have hss := Iso.stk_size c k
            rw [h0, List.length_cons] at hss
            generalize s.length = m at *
            have hmn : m ≤ 17592186044416 := by omega
            have hsl := fun w' => run_upto Try.underlying22 HII.out cellsInt (some ⟨g, 0, none⟩) (m + 1) c4 m (by omega) w'
            generalize c.getD k 0 = x at *
            have hgg : ¬ w.heap.size = g := by omega
            have hgk : ¬ k = i := by omega
            have hii : (i : Int) < (n : Int) := by omega
            have em : ((m + 1 : Nat) : Int) - 1 = (m : Int) := by omega
            clear hm ht hs hkl HA h0 hx
            go_wp2_with (go_at_call 35; refine (HT.out _).mono ?_; rintro e w' ⟨rfl, rfl⟩)
            go_region
            go_wp2
            go_roundw
            case rel => exact ⟨k + 1, by omega, by go_num, HM.out.drew⟩
            case measure => simp [intOf]; omega
        · have ht : Iso.turn (c.getD k 0) = 0 := by unfold Iso.turn; rw [if_neg hs, if_neg hx]
          rw [ht] at HT
          have HM := hide (hm.out.plain hlt HL.out hs hx)
          obtain ⟨a4, c4, rfl, hle4⟩ := owns_form hm.out.wait
          generalize c.getD k 0 = x at *
          clear hm ht hs hkl HA
          go_wp2_with (go_at_call 35; refine (HT.out _).mono ?_; rintro e w' ⟨rfl, rfl⟩)
          go_roundw
          case rel => exact ⟨k + 1, by omega, by go_num, HM⟩
          case measure => simp [intOf]; omega
    · obtain rfl : k = n := by omega
      have hne : ¬ ((k : Int) < (k : Int)) := by omega
      have HE := hide (show wr.ownsRow w.heap.size 3 1 (.slice (some ⟨w.heap.size, 0, none⟩) k k) k ((Iso.MT c).map (Value.int .i64)) from by
        have := hm.out.own; rw [← Iso.ML_end, HL.out]; exact this)
      have HB := hide hm.out.bel
      obtain ⟨a4, c4, rfl, _⟩ := owns_form hm.out.wait
      clear hm hlt
      go_wp2
      go_ret
      exact ⟨rfl, HE.out, HB.out⟩
end Go.Proofs.Ythohbiklnknofaa
