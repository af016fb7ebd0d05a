import Derived.Test.YtmdmehopefgndaaGreatDoorZ07
import Derived.WalkSmall
import Derived.Maps.AppendAt
/- Match: which PDI belongs to which initiator. -/
namespace Go.Proofs.YtmdmehopefgndaaGreatDoor
open Go.RowKit
set_option linter.unusedVariables false
set_option maxHeartbeats 1000000
set_option maxRecDepth 100000
/-- The initiators that wait, as a list of numbers. -/
def wl (s : List Nat) : List Int := s.reverse.map fun (i : Nat) => (i : Int)
theorem wl_push (s : List Nat) (k : Nat) : wl (k :: s) = wl s ++ [(k : Int)] := by simp [wl]
theorem wl_len (s : List Nat) : (wl s).length = s.length := by simp [wl]
structure MI (w : World) (c : List Int) (n k : Nat) (sv : Value) (wr : World) : Prop where
  own : wr.ownsRow w.heap.size 3 1 (.slice (some ⟨w.heap.size, 0, none⟩) n n) n ((Iso.ML c k).map (Value.int .i64))
  wait : wr.ownsRow (w.heap.size + 1) 3 1 sv (Iso.stk c k).length ((wl (Iso.stk c k)).map (Value.int .i64))
  bel : Below w.heap.size w wr
theorem MI.set {w : World} {c : List Int} {n k : Nat} {sv : Value} {wr : World} (h : MI w c n k sv wr) (hk : k < n) (y : Int) : (wr.setCell ⟨w.heap.size, k, none⟩ (.int .i64 y)).ownsRow w.heap.size 3 1 (.slice (some ⟨w.heap.size, 0, none⟩) n n) n (((Iso.ML c k).set k y).map (Value.int .i64)) := owns_set h.own k y
theorem MI.init {w : World} {c : List Int} {n k : Nat} {sv : Value} {wr : World} (h : MI w c n k sv wr) (hk : k < n) (hl : c.length = n) (hs : Iso.st (c.getD k 0) = true) {o : Obj} {v2 : Value} {w2 : World}
    (hb : Below (w.heap.size + 1) (((wr.setCell ⟨w.heap.size, k, none⟩ (.int .i64 (k : Int))).setCell ⟨w.heap.size, k, none⟩ (.int .i64 (n : Int))).alloc o) w2)
    (ho : w2.ownsRow (w.heap.size + 1) 3 1 v2 ((Iso.stk c k).length + 1) ((wl (Iso.stk c k)).map (Value.int .i64) ++ [(k : Int)].map (Value.int .i64))) : MI w c n (k + 1) v2 w2 := by
  have h1 := owns_set (owns_set h.own k (k : Int)) k (n : Int)
  rw [List.set_set, ← hl, ← Iso.ML_init (by omega) hs, hl] at h1
  refine ⟨owns_keep (h1.alloc o) hb (by omega), ?_, ?_⟩
  · rw [Iso.stk_init c k hs, wl_push, List.map_append]; exact ho
  · have hsz : w.heap.size ≤ wr.heap.size := h.bel.size
    exact ((((h.bel.setCell (p := ⟨w.heap.size, k, none⟩) (Nat.le_refl _) _).setCell (p := ⟨w.heap.size, k, none⟩) (Nat.le_refl _) _).alloc (by simp [World.setCell]; exact hsz) o)).trans (hb.mono (by omega))
theorem MI.plain {w : World} {c : List Int} {n k : Nat} {sv : Value} {wr : World} (h : MI w c n k sv wr) (hk : k < n) (hl : c.length = n) (hs : ¬ Iso.st (c.getD k 0) = true) (hx : ¬ c.getD k 0 = 23) :
    MI w c n (k + 1) sv (wr.setCell ⟨w.heap.size, k, none⟩ (.int .i64 (k : Int))) := by
  have h1 := owns_set h.own k (k : Int)
  rw [← Iso.ML_plain (by omega) hs hx] at h1
  have h2 := ownsRow_setCell_below h.wait (a := ⟨w.heap.size, k, none⟩) (Nat.lt_succ_self _) (.int .i64 (k : Int))
  have h3 : Iso.stk c (k + 1) = Iso.stk c k := by rw [Iso.stk, Iso.push, if_neg hs, if_neg hx]
  exact ⟨h1, by rw [h3]; exact h2, h.bel.setCell (p := ⟨w.heap.size, k, none⟩) (Nat.le_refl _) _⟩
theorem MI.alone {w : World} {c : List Int} {n k : Nat} {sv : Value} {wr : World} (h : MI w c n k sv wr) (hk : k < n) (hl : c.length = n) (hx : c.getD k 0 = 23) (h0 : Iso.stk c k = []) :
    MI w c n (k + 1) sv ((wr.setCell ⟨w.heap.size, k, none⟩ (.int .i64 (k : Int))).setCell ⟨w.heap.size, k, none⟩ (.int .i64 (-1))) := by
  have h1 := owns_set (owns_set h.own k (k : Int)) k (-1)
  rw [List.set_set, ← Iso.ML_alone (by omega) hx h0] at h1
  have h2 := ownsRow_setCell_below (ownsRow_setCell_below h.wait (a := ⟨w.heap.size, k, none⟩) (Nat.lt_succ_self _) (.int .i64 (k : Int))) (a := ⟨w.heap.size, k, none⟩) (Nat.lt_succ_self _) (.int .i64 (-1))
  have h3 : Iso.stk c (k + 1) = Iso.stk c k := by rw [Iso.stk, Iso.push, hx, if_neg (by decide), if_pos rfl, h0]; rfl
  exact ⟨h1, by rw [h3]; exact h2, (h.bel.setCell (p := ⟨w.heap.size, k, none⟩) (Nat.le_refl _) _).setCell (p := ⟨w.heap.size, k, none⟩) (Nat.le_refl _) _⟩
theorem MI.pair {w : World} {c : List Int} {n k i g cp : Nat} {s : List Nat} {wr : World} (h : MI w c n k (.slice (some ⟨g, 0, none⟩) (s.length + 1) cp) wr) (hk : k < n) (hl : c.length = n) (hx : c.getD k 0 = 23) (h0 : Iso.stk c k = i :: s) :
    MI w c n (k + 1) (.slice (some ⟨g, 0, none⟩) s.length cp) (((wr.setCell ⟨w.heap.size, k, none⟩ (.int .i64 (k : Int))).setCell ⟨w.heap.size, k, none⟩ (.int .i64 (i : Int))).setCell ⟨w.heap.size, i, none⟩ (.int .i64 (k : Int))) := by
  have h1 := owns_set (owns_set (owns_set h.own k (k : Int)) k (i : Int)) i (k : Int)
  rw [List.set_set, ← (Iso.ML_pair (by omega) hx h0).2] at h1
  have hw := h.wait
  rw [h0, wl_push, List.map_append, List.length_cons] at hw
  have h2 := ownsRow_pop (by rw [List.length_map, wl_len, Nat.mul_one]) hw
  have h3 : Iso.stk c (k + 1) = s := by rw [Iso.stk, Iso.push, hx, if_neg (by decide), if_pos rfl, h0]; rfl
  have h4 := ownsRow_setCell_below (ownsRow_setCell_below (ownsRow_setCell_below h2 (a := ⟨w.heap.size, k, none⟩) (Nat.lt_succ_self _) (.int .i64 (k : Int))) (a := ⟨w.heap.size, k, none⟩) (Nat.lt_succ_self _) (.int .i64 (i : Int))) (a := ⟨w.heap.size, i, none⟩) (Nat.lt_succ_self _) (.int .i64 (k : Int))
  exact ⟨h1, by rw [h3]; exact h4, ((h.bel.setCell (p := ⟨w.heap.size, k, none⟩) (Nat.le_refl _) _).setCell (p := ⟨w.heap.size, k, none⟩) (Nat.le_refl _) _).setCell (p := ⟨w.heap.size, i, none⟩) (Nat.le_refl _) _⟩
theorem MI.drew {w : World} {c : List Int} {n k : Nat} {sv : Value} {wr : World} (h : MI w c n k sv wr) : MI w c n k sv wr.drew := ⟨h.own.drew, h.wait.drew, h.bel.drew⟩
theorem MI.top {w : World} {c : List Int} {n k i g cp : Nat} {s : List Nat} {wr : World} (h : MI w c n k (.slice (some ⟨g, 0, none⟩) (s.length + 1) cp) wr) (h0 : Iso.stk c k = i :: s) : w.heap.size < g ∧ wr.cell? ⟨g, s.length, none⟩ = some (.int .i64 (i : Int)) := by
  have hw := h.wait
  have hb := (hw.lt g rfl).1
  refine ⟨by omega, ?_⟩
  rw [h0, List.length_cons] at hw
  rw [owns_cell hw s.length (by omega)]
  simp [wl, List.getD]
theorem match_any (ao : Option Addr) (n cap : Nat) (c : List Int) (w : World) (h : Row .i64 w ao n cap c) (hn : n * 8 ≤ 140737488351232) :
    Calls Tryz.prog 51 #[.slice ao n cap] w fun e w' => e = .returned (.slice (some ⟨w.heap.size, 0, none⟩) n n) ∧ w'.ownsRow w.heap.size 3 1 (.slice (some ⟨w.heap.size, 0, none⟩) n n) n ((Iso.MT c).map (Value.int .i64)) ∧ Below w.heap.size w w' := by
  obtain ⟨ii, hii, hy0, hy1, hy2⟩ := info_parts infoInt
  have HII : Hid (Tryz.prog.info? 3 = some ii) := hii
  have HY0 := hide hy0
  have HY1 := hide hy1
  have HY2 := hide hy2
  have H := hide h
  have HL := hide h.len
  have HN := hide hn
  have hn2 : n ≤ 17592186044416 := by omega
  clear h hn hii hy0 hy1 hy2
  go_enter Tryz.func51, Tryz.ntmps51
  go_wp2_with (at_make; refine wpList_make_full _ rfl _ _ 27 rfl w.heap.size 3 ii (.int .i64 0) 1 Tryz.underlying27 HII.out HY0.out HY1.out _ _ _ _ n rfl rfl rfl rfl ?b2 ?b3 (Nat.le_refl _) ?_)
  case b2 => rw [HY2.out]; omega
  case b3 => unfold maxLen; omega
  intro w1 hown hgrow
  have hbel := (Below.refl w.heap.size w).grown hgrow (Nat.le_refl _) (fun _ h => by cases h)
  have HO : Hid (MI w c n 0 (.slice none 0 0) w1) := by
    refine ⟨?_, World.ownsRow_nil _ _ _ _, hbel⟩
    have e : (madeCells #[Value.int .i64 0] n).toList = (Iso.ML c 0).map (Value.int .i64) := by
      rw [Iso.ML_zero, HL.out]
      simp [toList_madeCells_one]
    rw [← e]
    simpa using hown
  clear hown hgrow hbel
  go_wp2
  go_loopw [4, 13] (fun sv i wr => ∃ k : Nat, k ≤ n ∧ i = .int .i64 k ∧ Hid (MI w c n k sv wr)) (fun _ i _ => n - (intOf i).toNat)
  case atStart => exact ⟨0, Nat.zero_le _, rfl, HO⟩
  case round =>
    obtain ⟨k, hk, rfl, hm⟩ := hrel
    by_cases hlt : k < n
    · have hkl : k < c.length := by rw [HL.out]; exact hlt
      obtain ⟨b, off, rfl, hbl, hc⟩ := H.out.cells (by omega)
      have ck : wr.cell? ⟨b, off + k, none⟩ = some (.int .i64 (c.getD k 0)) := (hm.out.bel.cell (by exact hbl)).trans (hc k hkl)
      have HT := hide (fun w' => turn_any (c.getD k 0) w')
      have co := owns_cell hm.out.own k hlt
      have hfz := hm.out.own.frozenAt k
      generalize (Iso.ML c k).getD k 0 = old at co
      have hin : (k : Int) < (n : Int) := by omega
      have hszw : w.heap.size < wr.heap.size := (hm.out.own.lt w.heap.size rfl).2
      have hgb : ¬ w.heap.size = b := by have hbl2 : b < w.heap.size := hbl; omega
      have HA := hide (hm.out.set hlt (k : Int))
      clear hc
      by_cases hs : Iso.st (c.getD k 0) = true
      · have ht : Iso.turn (c.getD k 0) = 1 := by unfold Iso.turn; rw [if_pos hs]
        rw [ht] at HT
        have HI := hide (fun (o : Obj) (v2 : Value) (w2 : World) => hm.out.init (o := o) (v2 := v2) (w2 := w2) hlt HL.out hs)
        have HW := hide hm.out.wait
        obtain ⟨a4, c4, rfl, hle4⟩ := owns_form hm.out.wait
        have hss := Iso.stk_size c k
        generalize (Iso.stk c k).length = L at *
        generalize c.getD k 0 = x at *
        clear hm ht hs hkl HA
        go_wp2_with (first
          | (go_at_call 37; refine (HT.out _).mono ?_; rintro e w' ⟨rfl, rfl⟩)
          | (at_builtin; refine wpList_append_row _ rfl (.tmp 31) (.tmp 33) 27 rfl (w.heap.size + 1) 3 ii (.int .i64 0) 8 Tryz.underlying27 HII.out HY0.out HY1.out HY2.out rfl _ L _ rfl ((ownsRow_setCell_below (ownsRow_setCell_below HW.out (Nat.lt_succ_self _) _) (Nat.lt_succ_self _) _).alloc _) .i64 _ 1 1 [(k : Int)] rfl (row_one _ wr.heap.size (by rw [size_set, size_set]) (k : Int)) (by omega) (by omega) (by simp; omega) ?_; intro v2 w2 hown2 hb2))
        have HM := hide (HI.out _ v2 w2 hb2 hown2)
        clear hown2 hb2 HI HW
        go_wp2
        go_roundw
        case rel => exact ⟨k + 1, by omega, by go_num, HM⟩
        case measure => simp [intOf]; omega
      · by_cases hx : c.getD k 0 = 23
        · have ht : Iso.turn (c.getD k 0) = -1 := by unfold Iso.turn; rw [if_neg hs, if_pos hx]
          rw [ht] at HT
          cases h0 : Iso.stk c k with
          | nil =>
            have HM := hide (hm.out.alone hlt HL.out hx h0)
            obtain ⟨a4, c4, e4, hle4⟩ := owns_form hm.out.wait
            rw [h0, List.length_nil] at e4
            subst e4
            generalize c.getD k 0 = x at *
            clear hm ht hs hkl HA h0 hx
            go_wp2_with (go_at_call 37; refine (HT.out _).mono ?_; rintro e w' ⟨rfl, rfl⟩)
            go_roundw
            case rel => exact ⟨k + 1, by omega, by go_num, HM⟩
            case measure => simp [intOf]; omega
          | cons i s =>
            obtain ⟨g, c4, e4, hgl, hle4⟩ := owns_pos hm.out.wait (by rw [h0]; simp)
            rw [h0, List.length_cons] at e4 hle4
            subst e4
            have HM := hide (hm.out.pair hlt HL.out hx h0)
            obtain ⟨hg1, ct⟩ := hm.out.top h0
            have hi := (Iso.ML_pair hkl hx h0).1
            have ci := owns_cell hm.out.own i (by omega)
            have hfi := hm.out.own.frozenAt i
            generalize (Iso.ML c k).getD i 0 = oldi at ci
            have hss := Iso.stk_size c k
            rw [h0, List.length_cons] at hss
            generalize s.length = m at *
            have hmn : m ≤ 17592186044416 := by omega
            have hsl := fun w' => run_upto Tryz.underlying27 HII.out cellsInt (some ⟨g, 0, none⟩) (m + 1) c4 m (by omega) w'
            generalize c.getD k 0 = x at *
            have hgg : ¬ w.heap.size = g := by omega
            have hgk : ¬ k = i := by omega
            have hii : (i : Int) < (n : Int) := by omega
            have em : ((m + 1 : Nat) : Int) - 1 = (m : Int) := by omega
            clear hm ht hs hkl HA h0 hx
            go_wp2_with (go_at_call 37; refine (HT.out _).mono ?_; rintro e w' ⟨rfl, rfl⟩)
            go_region
            go_wp2
            go_roundw
            case rel => exact ⟨k + 1, by omega, by go_num, HM.out.drew⟩
            case measure => simp [intOf]; omega
        · have ht : Iso.turn (c.getD k 0) = 0 := by unfold Iso.turn; rw [if_neg hs, if_neg hx]
          rw [ht] at HT
          have HM := hide (hm.out.plain hlt HL.out hs hx)
          obtain ⟨a4, c4, rfl, hle4⟩ := owns_form hm.out.wait
          generalize c.getD k 0 = x at *
          clear hm ht hs hkl HA
          go_wp2_with (go_at_call 37; refine (HT.out _).mono ?_; rintro e w' ⟨rfl, rfl⟩)
          go_roundw
          case rel => exact ⟨k + 1, by omega, by go_num, HM⟩
          case measure => simp [intOf]; omega
    · obtain rfl : k = n := by omega
      have hne : ¬ ((k : Int) < (k : Int)) := by omega
      have HE := hide (show wr.ownsRow w.heap.size 3 1 (.slice (some ⟨w.heap.size, 0, none⟩) k k) k ((Iso.MT c).map (Value.int .i64)) from by
        have := hm.out.own; rw [← Iso.ML_end, HL.out]; exact this)
      have HB := hide hm.out.bel
      obtain ⟨a4, c4, rfl, _⟩ := owns_form hm.out.wait
      clear hm hlt
      go_wp2
      go_ret
      exact ⟨rfl, HE.out, HB.out⟩
end Go.Proofs.YtmdmehopefgndaaGreatDoor

/- Lists of lists of places: in memory; Levels. -/
namespace Go.Proofs.YtmdmehopefgndaaGreatDoor
open Go.RowKit
set_option linter.unusedVariables false
set_option maxHeartbeats 1000000
set_option maxRecDepth 100000
theorem infoInts : (Tryz.prog.info? 27).map (fun i => (i.zero, i.size, i.bytes)) = some (some (.slice none 0 0), 1, 24) := by kernel_rfl
theorem own_types {w : World} {B B' e e' n m : Nat} {v u : Value} {xs ys : List Value} (h : w.ownsRow B e 1 v n xs) (h' : w.ownsRow B' e' 1 u m ys) (hne : ¬ e = e') (g : Nat) (h1 : v.ownBlock = some g) : ¬ u.ownBlock = some g := by
  intro h2
  rcases h.2 with ⟨rfl, _⟩ | ⟨a, cap, cur, rfl, _, ha, _⟩
  · simp [Value.ownBlock] at h1
  · rcases h'.2 with ⟨rfl, _⟩ | ⟨a', cap', cur', rfl, _, ha', _⟩
    · simp [Value.ownBlock] at h2
    · simp [Value.ownBlock] at h1 h2
      subst h1 h2
      rw [ha] at ha'
      simp at ha'
      exact hne ha'.2
theorem own_apart {w : World} {B B' e e' n m : Nat} {v u : Value} {xs ys : List Value} (h : w.ownsRow B e 1 v n xs) (h' : w.ownsRow B' e' 1 u m ys) (hne : ¬ e = e') : u.ownBlock = none ∨ u.ownBlock ≠ v.ownBlock := by
  cases hu : u.ownBlock with
  | none => exact .inl rfl
  | some g => exact .inr (fun h1 => own_types h h' hne g h1.symm hu)
/-- A list of lists that the call owns: each has memory of its own. -/
structure LO (B : Nat) (w : World) (v : Value) (vs : List Value) (rs : List (List Nat)) : Prop where
  oa : w.ownsRow B 27 1 v rs.length vs
  rows : ∀ j, j < rs.length → ∃ u, vs[j]? = some u ∧ w.ownsRow B 3 1 u (Rn.rn rs j).length ((Rn.zs (Rn.rn rs j)).map (Value.int .i64))
  ne : ∀ (i j : Nat) (u u' : Value) (g : Nat), vs[i]? = some u → vs[j]? = some u' → i ≠ j → u.ownBlock = some g → ¬ u'.ownBlock = some g
section
variable {B : Nat} {w : World} {v : Value} {vs : List Value} {rs : List (List Nat)}
theorem LO.len (h : LO B w v vs rs) : vs.length = rs.length := by have := h.oa.1; simpa using this
theorem LO.begin (B : Nat) (w : World) : LO B w (.slice none 0 0) [] [] := ⟨World.ownsRow_nil _ _ _ _, fun j hj => by simp at hj, fun i j u u' g h => by simp at h⟩
theorem LO.below (h : LO B w v vs rs) {w' : World} (hb : Below w.heap.size w w') : LO B w' v vs rs :=
  ⟨owns_below h.oa hb, fun j hj => by obtain ⟨u, h1, h2⟩ := h.rows j hj; exact ⟨u, h1, owns_below h2 hb⟩, h.ne⟩
/-- A nil list more. -/
theorem LO.more (h : LO B w v vs rs) {w' : World} {v' : Value} (ho : w'.ownsRow B 27 1 v' (rs.length + 1) (vs ++ [.slice none 0 0])) (hg : w.grownBy w' v.ownBlock) : LO B w' v' (vs ++ [.slice none 0 0]) (rs ++ [[]]) := by
  have hl := h.len
  refine ⟨by simpa using ho, ?_, ?_⟩
  · intro j hj
    by_cases hj2 : j < rs.length
    · obtain ⟨u, h1, h2⟩ := h.rows j hj2
      refine ⟨u, by rw [List.getElem?_append_left (by omega)]; exact h1, ?_⟩
      rw [Rn.rn_left _ _ _ hj2]
      exact h2.kept hg (own_apart h.oa h2 (by decide))
    · obtain rfl : j = rs.length := by simp at hj; omega
      refine ⟨.slice none 0 0, by rw [← hl]; simp, ?_⟩
      rw [Rn.rn_snoc]
      exact World.ownsRow_nil _ _ _ _
  · intro i j u u' g h1 h2 hij h3
    by_cases hi : i < vs.length
    · rw [List.getElem?_append_left hi] at h1
      by_cases hj : j < vs.length
      · rw [List.getElem?_append_left hj] at h2
        exact h.ne i j u u' g h1 h2 hij h3
      · rw [List.getElem?_append_right (by omega)] at h2
        have : u' = .slice none 0 0 := by
          cases hq : j - vs.length with
          | zero => rw [hq] at h2; simpa using h2.symm
          | succ q => rw [hq] at h2; simp at h2
        subst this
        simp [Value.ownBlock]
    · rw [List.getElem?_append_right (by omega)] at h1
      have : u = .slice none 0 0 := by
        cases hq : i - vs.length with
        | zero => rw [hq] at h1; simpa using h1.symm
        | succ q => rw [hq] at h1; simp at h1
      subst this
      simp [Value.ownBlock] at h3
/-- A place more in the last list. -/
theorem LO.push {g N cap k : Nat} {u u' : Value} {w' : World} (h : LO B w (.slice (some ⟨g, 0, none⟩) (N + 1) cap) vs rs) (hN : rs.length = N + 1) (hu : vs[N]? = some u)
    (ho : w'.ownsRow B 3 1 u' ((Rn.rn rs N).length + 1) ((Rn.zs (Rn.rn rs N)).map (Value.int .i64) ++ [.int .i64 (k : Int)])) (hg : w.grownBy w' u.ownBlock) (hloc : u'.ownBlock = u.ownBlock ∨ u'.ownBlock = some w.heap.size) :
    LO B (w'.setCell ⟨g, N, none⟩ u') (.slice (some ⟨g, 0, none⟩) (N + 1) cap) (vs.set N u') (Rn.grow rs k) := by
  have hl := h.len
  obtain ⟨u0, hu0, hou⟩ := h.rows N (by omega)
  rw [hu] at hu0
  simp at hu0
  subst hu0
  have hoa := h.oa
  rw [hN] at hoa
  have hoa' := hoa.kept hg (own_apart hou hoa (by decide))
  have hset := (hoa'.stored N u').1
  have hgl : (Rn.grow rs k).length = N + 1 := by simp [Rn.grow, hN]
  have hrnN : Rn.rn (Rn.grow rs k) N = Rn.rn rs N ++ [k] := by simp [Rn.grow, hN, Rn.rn, List.getD]
  have hrno : ∀ j, ¬ j = N → Rn.rn (Rn.grow rs k) j = Rn.rn rs j := fun j hj => by
    unfold Rn.grow
    rw [hN, Nat.add_sub_cancel]
    simp [Rn.rn, List.getD, show ¬ N = j from fun q => hj q.symm]
  refine ⟨by rw [hgl]; exact hset, ?_, ?_⟩
  · intro j hj
    rw [hgl] at hj
    by_cases hjN : j = N
    · subst hjN
      refine ⟨u', by rw [List.getElem?_set_self (by omega)], ?_⟩
      rw [hrnN]
      have e : ((Rn.zs (Rn.rn rs j ++ [k])).map (Value.int .i64)) = (Rn.zs (Rn.rn rs j)).map (Value.int .i64) ++ [.int .i64 (k : Int)] := by simp [Rn.zs]
      rw [e, List.length_append, List.length_singleton]
      exact ownsRow_setCell_other ho (fun h1 => own_types hoa' ho (by decide) g rfl h1) u'
    · obtain ⟨x, hx1, hx2⟩ := h.rows j (by omega)
      refine ⟨x, by rw [List.getElem?_set_ne (fun q => hjN q.symm)]; exact hx1, ?_⟩
      rw [hrno j hjN]
      have hk : w'.ownsRow B 3 1 x (Rn.rn rs j).length ((Rn.zs (Rn.rn rs j)).map (Value.int .i64)) := by
        refine hx2.kept hg ?_
        cases hxb : x.ownBlock with
        | none => exact .inl rfl
        | some q => exact .inr (fun h1 => h.ne N j u x q hu hx1 (fun e => hjN e.symm) h1.symm hxb)
      exact ownsRow_setCell_other hk (fun h1 => own_types hoa' hk (by decide) g rfl h1) u'
  · intro i j x y q hx hy hij hxq hyq
    have key : ∀ i x, ¬ i = N → (vs.set N u')[i]? = some x → ∀ q, x.ownBlock = some q → ¬ u'.ownBlock = some q := by
      intro i x hi hx q hxq huq
      rw [List.getElem?_set_ne (fun e => hi e.symm)] at hx
      rcases hloc with e | e
      · rw [e] at huq; exact h.ne i N x u q hx hu hi hxq huq
      · rw [e] at huq
        have hi2 : i < rs.length := by rw [← hl]; exact (List.getElem?_eq_some_iff.1 hx).1
        obtain ⟨x', hx', hox⟩ := h.rows i hi2
        rw [hx] at hx'
        simp at hx' huq
        subst hx'
        have := (hox.lt q hxq).2
        omega
    by_cases hi : i = N
    · subst hi
      rw [List.getElem?_set_self (by omega)] at hx
      simp at hx
      subst hx
      exact key j y (fun e => hij e.symm) hy q hyq hxq
    · by_cases hj : j = N
      · subst hj
        rw [List.getElem?_set_self (by omega)] at hy
        simp at hy
        subst hy
        exact key i x hi hx q hxq hyq
      · rw [List.getElem?_set_ne (fun e => hi e.symm)] at hx
        rw [List.getElem?_set_ne (fun e => hj e.symm)] at hy
        exact h.ne i j x y q hx hy hij hxq hyq
end
theorem LO.cellAfter {B : Nat} {w : World} {vs : List Value} {rs : List (List Nat)} {g N cap : Nat} {u : Value} {w' : World} (h : LO B w (.slice (some ⟨g, 0, none⟩) (N + 1) cap) vs rs) (hN : rs.length = N + 1) (hu : vs[N]? = some u) (hg : w.grownBy w' u.ownBlock) : w'.cell? ⟨g, N, none⟩ = some u ∧ w'.frozen? ⟨g, N, none⟩ = false := by
  obtain ⟨u0, hu0, hou⟩ := h.rows N (by omega)
  rw [hu] at hu0
  simp at hu0
  subst hu0
  have hoa := h.oa
  rw [hN] at hoa
  have hl := h.len
  have hoa' := hoa.kept hg (own_apart hou hoa (by decide))
  exact ⟨by rw [hoa'.cellAt N (by omega)]; exact hu, hoa'.frozenAt N⟩
theorem grown_alloc {B : Nat} {w w1 w2 : World} {o : Obj} {row : Option Nat} (h : Below B w w1) (hs : B ≤ w1.heap.size) (hg : (w1.alloc o).grownBy w2 row) (hr : ∀ g, row = some g → B ≤ g) : Below B w w2 := (h.alloc hs o).grown hg (by simp; omega) hr
/-- What Levels keeps. -/
structure LP (w : World) (lv : List Int) (k : Nat) (v : Value) (wr : World) : Prop where
  lo : ∃ vs, LO w.heap.size wr v vs (Rn.R lv k).2
  bel : Below w.heap.size w wr
theorem LP.neg {w : World} {lv : List Int} {k : Nat} {v : Value} {wr : World} (h : LP w lv k v wr) (h0 : lv.getD k 0 < 0) : LP w lv (k + 1) v wr := by
  refine ⟨?_, h.bel⟩
  rw [Rn.R_neg h0]
  exact h.lo
theorem levels_any (ao : Option Addr) (n cap : Nat) (lv : List Int) (w : World) (h : Row .i64 w ao n cap lv) (hn : n * 24 ≤ 140737488351232) :
    Calls Tryz.prog 58 #[.slice ao n cap] w fun e w' => ∃ v, e = .returned v ∧ (∃ vs, LO w.heap.size w' v vs (Rn.RS lv)) ∧ Below w.heap.size w w' := by
  obtain ⟨ii, hii, hy0, hy1, hy2⟩ := info_parts infoInt
  have HII : Hid (Tryz.prog.info? 3 = some ii) := hii
  have HY0 := hide hy0
  have HY1 := hide hy1
  have HY2 := hide hy2
  obtain ⟨jj, hjj, hz0, hz1, hz2⟩ := info_parts infoInts
  have HJJ : Hid (Tryz.prog.info? 27 = some jj) := hjj
  have HZ0 := hide hz0
  have HZ1 := hide hz1
  have HZ2 := hide hz2
  have H := hide h
  have HL := hide h.len
  have HN := hide hn
  have hn2 : n ≤ 5864062014634 := by omega
  clear h hn hii hy0 hy1 hy2 hjj hz0 hz1 hz2
  go_enter Tryz.func58, Tryz.ntmps58
  go_wp2
  go_loopw [3, 4, 9] (fun v l i wr => ∃ k : Nat, k ≤ n ∧ i = .int .i64 (k : Int) ∧ l = .int .i64 (Rn.R lv k).1 ∧ Hid (LP w lv k v wr)) (fun _ _ i _ => n - (intOf i).toNat)
  case atStart => exact ⟨0, Nat.zero_le _, rfl, rfl, ⟨⟨[], LO.begin _ _⟩, Below.refl _ _⟩⟩
  case round =>
    obtain ⟨k, hk, rfl, rfl, hm⟩ := hrel
    by_cases hlt : k < n
    · have hkl : k < lv.length := by rw [HL.out]; exact hlt
      obtain ⟨b, off, rfl, hbl, hc⟩ := H.out.cells (by omega)
      have ck : wr.cell? ⟨b, off + k, none⟩ = some (.int .i64 (lv.getD k 0)) := (hm.out.bel.cell (by exact hbl)).trans (hc k hkl)
      have hin : (k : Int) < (n : Int) := by omega
      have hsz : w.heap.size ≤ wr.heap.size := hm.out.bel.size
      have hbl2 : b < w.heap.size := hbl
      obtain ⟨vs, hlo⟩ := hm.out.lo
      clear hc
      by_cases h0 : lv.getD k 0 < 0
      · have HM := hide (hm.out.neg h0)
        have hR := Rn.R_neg h0
        obtain ⟨a4, c4, rfl, _⟩ := owns_form hlo.oa
        have h1 : (Rn.R lv (k + 1)).1 = (Rn.R lv k).1 := by rw [hR]
        rw [← h1]
        generalize (Rn.R lv k).2.length = N at *
        generalize lv.getD k 0 = x at *
        clear hm hlo hR h1 hkl
        go_wp2
        go_roundw
        case rel => exact ⟨k + 1, by omega, by go_num, rfl, HM⟩
        case measure => simp [intOf]; omega
      · have hRI := Rn.RI.all lv k
        have hlen := Rn.R_len lv k
        by_cases h1 : lv.getD k 0 = (Rn.R lv k).1
        · have hR := Rn.R_same h0 h1
          rcases hRI.last with ⟨_, q1⟩ | ⟨a, r, q1, q2, q3⟩
          · omega
          obtain ⟨N, hNN⟩ : ∃ N, (Rn.R lv k).2.length = N + 1 := ⟨a.length, by rw [q1]; simp⟩
          obtain ⟨g, cp, e4, hgB, hle4⟩ := owns_pos hlo.oa (by omega)
          rw [hNN] at e4 hle4
          subst e4
          obtain ⟨u, hu, hou⟩ := hlo.rows N (by omega)
          have hoa := hlo.oa
          rw [hNN] at hoa
          have hpos : 0 < (Rn.rn (Rn.R lv k).2 N).length := List.length_pos_iff.2 (hRI.ne _ (Rn.rn_mem (by omega)))
          have hrow := Rn.R_row lv k N (by omega)
          have cg : wr.cell? ⟨g, N, none⟩ = some u := by rw [hoa.cellAt N (by have := hlo.len; omega)]; exact hu
          have HAF := hide (fun (o : Obj) (w' : World) (hg : (wr.alloc o).grownBy w' u.ownBlock) => (hlo.below ((Below.refl _ _).alloc (Nat.le_refl _) o)).cellAfter hNN hu hg)
          have HPU := hide (fun (o : Obj) (u' : Value) (w' : World) ho (hg : (wr.alloc o).grownBy w' u.ownBlock) hloc => (hlo.below ((Below.refl _ _).alloc (Nat.le_refl _) o)).push (k := k) hNN hu (u' := u') ho hg hloc)
          have HBL := hide hm.out.bel
          have HOU := hide hou
          have HRE := hide (show Rn.R lv (k + 1) = _ from hR)
          obtain ⟨gu, cu, rfl, hguB, hle5⟩ := owns_pos hou hpos
          generalize (Rn.rn (Rn.R lv k).2 N).length = m at *
          generalize hxs : (Rn.zs (Rn.rn (Rn.R lv k).2 N)).map (Value.int .i64) = xs at *
          have HX := hide hxs
          have h1' : lv.getD k 0 = (Rn.R lv k).1 := h1
          have hl1 : (Rn.R lv (k + 1)).1 = (Rn.R lv k).1 := by rw [hR]
          rw [← h1] at hl1 ⊢
          rw [← hl1]
          have hx0 : ¬ lv.getD k 0 < 0 := h0
          rw [← hl1] at hx0 ck
          generalize hxx : (Rn.R lv (k + 1)).1 = x at *
          have HXX := hide hxx
          clear hxx
          have em : ((N + 1 : Nat) : Int) - 1 = (N : Int) := by omega
          have hNn : N ≤ 5864062014633 := by omega
          clear hm hlo hR hl1 h1 h1' hRI q1 q2 q3 hoa hou hu hkl hxs h0
          go_wp2_with (at_builtin; refine wpList_append_own_at _ rfl (.tmp 32) (.tmp 34) 27 rfl w.heap.size 3 ii (.int .i64 0) 1 8 Tryz.underlying27 HII.out HY0.out HY1.out HY2.out rfl (by decide) (.slice (some ⟨gu, 0, none⟩) m cu) m xs rfl (HOU.out.alloc _) ⟨wr.heap.size, 0, none⟩ 1 1 [.int .i64 (k : Int)] rfl rfl (cell_one_new _ _ _) (ints_oneCell .i64 [(k : Int)]) (by unfold maxLen; omega) (by omega) (by simp; omega) ?_; intro u' w2 ho2 hg2 _ hloc2; obtain ⟨cA, fA⟩ := HAF.out _ _ hg2; obtain ⟨g2, c2, rfl, _, _⟩ := owns_pos ho2 (by omega))
          go_roundw
          case rel =>
            refine ⟨k + 1, by omega, by go_num, by rw [HXX.out], hide ⟨⟨vs.set N (.slice (some ⟨g2, 0, none⟩) (m + 1) c2), ?_⟩, ?_⟩⟩
            · rw [HRE.out]
              exact HPU.out _ _ _ ho2 hg2 (by simpa using hloc2)
            · exact (grown_alloc HBL.out hsz hg2 (fun q hq => by simp [Value.ownBlock] at hq; omega)).setCell (p := ⟨g, N, none⟩) hgB _
          case measure => simp [intOf]; omega
        · have hR := Rn.R_new h0 h1
          obtain ⟨a4, c4, rfl, _⟩ := owns_form hlo.oa
          obtain ⟨rs, hrs⟩ : ∃ rs, (Rn.R lv k).2 = rs := ⟨_, rfl⟩
          have HRE := hide (show Rn.R lv (k + 1) = (lv.getD k 0, Rn.grow (rs ++ [[]]) k) from by rw [hR, hrs])
          rw [hrs] at hlo hlen
          obtain ⟨N, hNN⟩ : ∃ N, (Rn.R lv k).2.length = N := ⟨_, rfl⟩
          have hNr : rs.length = N := by rw [← hrs]; exact hNN
          rw [hNN]
          rw [hNr] at hlen
          have HLO := hide hlo
          have hoa := hlo.oa
          rw [hNr] at hoa
          have HOA := hide hoa
          rw [hNr] at hlo
          have HMO := hide (fun (o : Obj) (v' : Value) (w' : World) ho (hg : (wr.alloc o).grownBy w' (Value.slice a4 N c4).ownBlock) => (hlo.below ((Below.refl _ _).alloc (Nat.le_refl _) o)).more (v' := v') ho hg)
          have HBL := hide hm.out.bel
          have hl1 : (Rn.R lv (k + 1)).1 = lv.getD k 0 := by rw [hR]
          generalize (Rn.R lv k).1 = l at *
          have HL1 := hide hl1
          generalize lv.getD k 0 = x at *
          have hne : (x != l) = true := bne_iff_ne.2 h1
          have em : ((N + 1 : Nat) : Int) - 1 = (N : Int) := by omega
          have hNn : N ≤ 5864062014633 := by omega
          have HNR := hide hNr
          have hvl := hlo.len
          rw [hNr] at hvl
          have HVL := hide hvl
          clear hm hlo hR hl1 hRI hoa hkl hvl hNr hNN hrs
          go_wp2_with (first
            | (at_builtin; refine wpList_append_own_at _ rfl (.tmp 19) (.tmp 20) 57 rfl w.heap.size 27 jj (.slice none 0 0) 1 24 Tryz.underlying57 HJJ.out HZ0.out HZ1.out HZ2.out rfl (by decide) (.slice a4 N c4) N vs rfl (HOA.out.alloc _) ⟨wr.heap.size, 0, none⟩ 1 1 [.slice none 0 0] rfl rfl (cell_one_new _ _ _) (by simp [Value.oneCell']) (by unfold maxLen; omega) (by omega) (by simp; omega) ?_; intro v1 w1 ho1 hg1 _ _; have hlo1 := HMO.out _ _ _ (by rw [HNR.out]; exact ho1) hg1; have hb1 := grown_alloc HBL.out hsz hg1 (fun q hq => (HOA.out.lt q hq).1); have hsz1 := hb1.size; obtain ⟨g1, c1, rfl, hgB, _⟩ := owns_pos ho1 (by omega); have cg : w1.cell? ⟨g1, N, none⟩ = some (.slice none 0 0) := by (rw [ho1.cellAt N (by simp), List.getElem?_append_right (by rw [HVL.out]; exact Nat.le_refl _), HVL.out, Nat.sub_self]; rfl))
            | (at_builtin; refine wpList_append_own_at _ rfl (.tmp 32) (.tmp 34) 27 rfl w.heap.size 3 ii (.int .i64 0) 1 8 Tryz.underlying27 HII.out HY0.out HY1.out HY2.out rfl (by decide) (.slice none 0 0) 0 [] rfl (World.ownsRow_nil _ _ _ _) ⟨w1.heap.size, 0, none⟩ 1 1 [.int .i64 (k : Int)] rfl rfl (cell_one_new _ _ _) (ints_oneCell .i64 [(k : Int)]) (by unfold maxLen; omega) (by omega) (by simp; omega) ?_; intro u' w2 ho2 hg2 _ hloc2; obtain ⟨cA, fA⟩ := (hlo1.below ((Below.refl _ _).alloc (Nat.le_refl _) _)).cellAfter (by simp [HNR.out]) (show (vs ++ [Value.slice none 0 0])[N]? = some (.slice none 0 0) from by rw [← HVL.out]; simp) hg2; obtain ⟨g2, c2, rfl, _, _⟩ := owns_pos ho2 (by omega)))
          go_roundw
          case rel =>
            refine ⟨k + 1, by omega, by go_num, by rw [HL1.out], hide ⟨⟨(vs ++ [Value.slice none 0 0]).set N (Value.slice (some ⟨g2, 0, none⟩) 1 c2), ?_⟩, ?_⟩⟩
            · rw [HRE.out]
              have hrn : Rn.rn (rs ++ [[]]) N = [] := by rw [← HNR.out]; exact Rn.rn_snoc _ _
              refine (hlo1.below ((Below.refl _ _).alloc (Nat.le_refl _) _)).push (k := k) (u := .slice none 0 0) (by simp [HNR.out]) (by rw [← HVL.out]; simp) ?_ hg2 (by simpa using hloc2)
              rw [hrn]
              exact ho2
            · exact (grown_alloc hb1 hsz1 hg2 (fun q hq => by simp [Value.ownBlock] at hq)).setCell (p := ⟨g1, N, none⟩) hgB _
          case measure => simp [intOf]; omega
    · obtain rfl : k = n := by omega
      have hne : ¬ ((k : Int) < (k : Int)) := by omega
      obtain ⟨vs, hlo⟩ := hm.out.lo
      have hb := hm.out.bel
      obtain ⟨a4, c4, rfl, _⟩ := owns_form hlo.oa
      have HLO := hide (show ∃ vs, LO w.heap.size wr (.slice a4 (Rn.R lv k).2.length c4) vs (Rn.RS lv) from ⟨vs, by unfold Rn.RS; rw [HL.out]; exact hlo⟩)
      generalize (Rn.R lv k).2.length = N at *
      generalize (Rn.R lv k).1 = l at *
      clear hm hlo hlt
      go_wp2
      go_ret
      exact ⟨_, rfl, HLO.out, hb⟩
end Go.Proofs.YtmdmehopefgndaaGreatDoor
