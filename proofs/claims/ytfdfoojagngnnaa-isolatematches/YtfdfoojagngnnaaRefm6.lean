/- The document's Match and Depth. -/
import Derived.Test.YtfdfoojagngnnaaRefp6
import Derived.Test.YtfdfoojagngnnaaWorks
namespace Go.Proofs.Ytfdfoojagngnnaa
open Go.RowKit
set_option linter.unusedVariables false
set_option maxHeartbeats 1000000
set_option maxRecDepth 100000
theorem owns_snoc {w : World} {base e n : Nat} {v : Value} {l m : List Int} {x : Int} (h : w.ownsRow base e 1 v (n + 1) (l.map (Value.int .i64) ++ [x].map (Value.int .i64))) (hm : m = l ++ [x]) : w.ownsRow base e 1 v (n + 1) (m.map (Value.int .i64)) := by
  rw [hm, List.map_append]; exact h
def mtP (c : List Int) (k : Nat) : List Int := (List.range k).map (Iso.mt c)
def dpP (c : List Int) (k : Nat) : List Int := (List.range k).map fun j => (Iso.dp c j : Int)
theorem mtP_succ (c : List Int) (k : Nat) : mtP c (k + 1) = mtP c k ++ [Iso.mt c k] := by simp [mtP, List.range_succ]
theorem dpP_succ (c : List Int) (k : Nat) : dpP c (k + 1) = dpP c k ++ [(Iso.dp c k : Int)] := by simp [dpP, List.range_succ]
/-- The last initiator below k whose PDI stands at i. -/
def fnd (c : List Int) (i : Nat) : Nat → Int
  | 0 => -1
  | k + 1 => if Iso.st (c.getD k 0) = true ∧ Iso.partner c k = i then (k : Int) else fnd c i k
theorem fnd_none {c : List Int} {i : Nat} : ∀ k, (∀ j, j < k → ¬ (Iso.st (c.getD j 0) = true ∧ Iso.partner c j = i)) → fnd c i k = -1 := by
  intro k
  induction k with
  | zero => intro _; rfl
  | succ k ih => intro h; rw [fnd, if_neg (h k (by omega)), ih (fun j hj => h j (by omega))]
theorem fnd_one {c : List Int} {i a : Nat} (h : ∀ j, (Iso.st (c.getD j 0) = true ∧ Iso.partner c j = i) ↔ j = a) : ∀ k, a < k → fnd c i k = (a : Int) := by
  intro k
  induction k with
  | zero => intro h0; omega
  | succ k ih =>
    intro h0
    rw [fnd]
    by_cases hk : k = a
    · rw [if_pos ((h k).2 hk), hk]
    · rw [if_neg (fun h1 => hk ((h k).1 h1)), ih (by omega)]
theorem fnd_mt {c : List Int} {i : Nat} (hi : i < c.length) (hx : c.getD i 0 = 23) : fnd c i i = Iso.mt c i := by
  unfold Iso.mt
  rw [hx, if_neg (by decide), if_pos rfl]
  cases hs : Iso.stk c i with
  | nil =>
    rw [Iso.hd]
    refine fnd_none i fun j hj h1 => ?_
    obtain ⟨s, h2⟩ := (Iso.head_iff hi hx j).2 h1
    rw [hs] at h2; cases h2
  | cons a s =>
    rw [Iso.hd]
    refine fnd_one (fun j => ?_) i (Iso.stk_lt c i a (by rw [hs]; simp)).1
    rw [← Iso.head_iff hi hx j, hs]
    constructor
    · rintro ⟨s', h1⟩; cases h1; rfl
    · rintro rfl; exact ⟨s, rfl⟩
structure RI (w : World) (zs : List Int) (k : Nat) (sv : Value) (wr : World) : Prop where
  own : wr.ownsRow w.heap.size 3 1 sv k (zs.map (Value.int .i64))
  bel : Below w.heap.size w wr
theorem RI.snoc {w : World} {zs ys : List Int} {k : Nat} {x : Int} {v2 : Value} {wr w2 : World} {o : Obj} (hw : Below w.heap.size w wr) (hb : Below w.heap.size (wr.alloc o) w2) (ho : w2.ownsRow w.heap.size 3 1 v2 (k + 1) (zs.map (Value.int .i64) ++ [x].map (Value.int .i64))) (hy : ys = zs ++ [x]) : RI w ys (k + 1) v2 w2 :=
  ⟨owns_snoc ho hy, (hw.alloc hw.size o).trans hb⟩
theorem rmatch_any (ao : Option Addr) (n cap : Nat) (c : List Int) (w : World) (h : Row .i64 w ao n cap c) (hn : n ≤ 200) :
    Calls Try.prog 12 #[.slice ao n cap] w fun e w' => ∃ a1 c1, e = .returned (.slice a1 n c1) ∧ Row .i64 w' a1 n c1 (Iso.MT c) ∧ Below w.heap.size w w' := by
  obtain ⟨ii, hii, hy0, hy1, hy2⟩ := info_parts infoInt
  have HII : Hid (Try.prog.info? 3 = some ii) := hii
  have HY0 := hide hy0
  have HY1 := hide hy1
  have HY2 := hide hy2
  have H := hide h
  have HL := hide h.len
  have HPA := hide (fun (w' : World) (hk : KO w w') (i : Nat) (hi : i < n) => partner_any ao n cap c i w' (h.below hk) (by omega) hi)
  clear h hii hy0 hy1 hy2
  go_enter Try.func12, Try.ntmps12
  go_wp2
  go_loopw [3, 4] (fun s3 s4 wr => ∃ k : Nat, k ≤ n ∧ s4 = .int .i64 (k : Int) ∧ Hid (RI w (mtP c k) k s3 wr)) (fun _ s4 _ => n - (intOf s4).toNat)
  case atStart => exact ⟨0, Nat.zero_le _, rfl, ⟨World.ownsRow_nil _ _ _ _, Below.refl _ _⟩⟩
  case round =>
    obtain ⟨k, hk, rfl, hm⟩ := hrel
    by_cases hlt : k < n
    · have hkl : k < c.length := by rw [HL.out]; exact hlt
      obtain ⟨b, off, rfl, hbl, hc⟩ := H.out.cells (by omega)
      have HC := hide (fun (j : Nat) (hj : j < n) => (show wr.cell? ⟨b, off + j, none⟩ = some (.int .i64 (c.getD j 0)) from (hm.out.bel.cell (by exact hbl)).trans (hc j (by rw [HL.out]; exact hj))))
      have ck := HC.out k hlt
      have hin : (k : Int) < (n : Int) := by omega
      have HT := hide (Starts_any (c.getD k 0) wr)
      have HOW := hide hm.out.own
      have hsz := hm.out.bel.size
      have HSN := hide (fun (x : Int) (v2 : Value) (w2 : World) (o : Obj) (hx : Iso.mt c k = x) => RI.snoc (zs := mtP c k) (ys := mtP c (k + 1)) (k := k) (x := x) (v2 := v2) (w2 := w2) (o := o) hm.out.bel (hy := by rw [mtP_succ, hx]))
      clear hc
      cases hs : Iso.st (c.getD k 0) with
      | true =>
        rw [hs] at HT
        have HX := hide (show Iso.mt c k = (Iso.partner c k : Int) from by unfold Iso.mt; rw [if_pos hs])
        have HP := hide (HPA.out wr hm.out.bel k hlt)
        have hx : (c.getD k 0 == 23) = false := beq_false_of_ne (Iso.st_23 hs)
        have hp2 := Iso.partner_le c k hkl
        rw [HL.out] at hp2
        generalize Iso.partner c k = q at *
        generalize c.getD k 0 = x at *
        clear hs hkl hm
        go_wp2_with (first
          | (go_at_call 19; refine HT.out.mono ?_; rintro e w' ⟨rfl, rfl⟩)
          | (go_at_call 20; refine HP.out.mono ?_; rintro e w' ⟨rfl, rfl⟩)
          | (at_builtin; refine wpList_append_row _ rfl (.tmp 45) (.tmp 47) 22 rfl w.heap.size 3 ii (.int .i64 0) 8 Try.underlying22 HII.out HY0.out HY1.out HY2.out rfl _ k _ rfl (HOW.out.alloc _) .i64 _ 1 1 [(q : Int)] rfl (row_one _ wr.heap.size rfl (q : Int)) (by omega) (by omega) (by simp; omega) ?_; intro v2 w2 hown2 hb2))
        have HM := hide (HSN.out _ v2 w2 _ HX.out hb2 hown2)
        clear hown2 hb2
        go_wp2
        go_roundw
        case rel => exact ⟨k + 1, by omega, by go_num, HM⟩
        case measure => simp [intOf]; omega
      | false =>
        rw [hs] at HT
        by_cases hx : c.getD k 0 = 23
        · have hx2 : (c.getD k 0 == 23) = true := beq_iff_eq.2 hx
          have HX := hide (fnd_mt hkl hx).symm
          have HBL := hide hm.out.bel
          generalize c.getD k 0 = x at *
          clear hs hx hm hkl
          go_wp2_with (go_at_call 19; refine HT.out.mono ?_; rintro e w' ⟨rfl, rfl⟩)
          generalize wr = W at *
          go_loopw [5, 6] (fun s5 s6 wi => ∃ j : Nat, j ≤ k ∧ s6 = .int .i64 (j : Int) ∧ s5 = .int .i64 (fnd c k j) ∧ W = wi) (fun _ s6 _ => k - (intOf s6).toNat)
          case atStart => exact ⟨0, Nat.zero_le _, rfl, rfl, rfl⟩
          case round =>
            obtain ⟨j, hj, rfl, rfl, rfl⟩ := hrel
            by_cases hjk : j < k
            · have cj := HC.out j (by omega)
              have hjn : (j : Int) < (n : Int) := by omega
              have hjk2 : (j : Int) < (k : Int) := by omega
              have HTJ := hide (Starts_any (c.getD j 0) W)
              have HPJ := hide (HPA.out W HBL.out j (by omega))
              have hfs : fnd c k (j + 1) = if Iso.st (c.getD j 0) = true ∧ Iso.partner c j = k then (j : Int) else fnd c k j := rfl
              generalize c.getD j 0 = y at *
              generalize Iso.partner c j = q at *
              generalize fnd c k j = fj at *
              cases hs : Iso.st y with
              | false =>
                rw [hs] at HTJ
                have HF := hide (show fnd c k (j + 1) = fj from by rw [hfs, if_neg (by rw [hs]; simp)])
                clear hs hfs ck HC HSN HX
                go_wp2_with (go_at_call 19; refine HTJ.out.mono ?_; rintro e w' ⟨rfl, rfl⟩)
                go_roundw
                case rel => exact ⟨j + 1, by omega, by go_num, by rw [HF.out], trivial⟩
                case measure => simp [intOf]; omega
              | true =>
                rw [hs] at HTJ
                by_cases hq : q = k
                · have hq2 : ((q : Int) == (k : Int)) = true := beq_iff_eq.2 (by omega)
                  have HF := hide (show fnd c k (j + 1) = (j : Int) from by rw [hfs, if_pos ⟨hs, hq⟩])
                  clear hs hfs ck HC hq HSN HX
                  go_wp2_with (first
                    | (go_at_call 19; refine HTJ.out.mono ?_; rintro e w' ⟨rfl, rfl⟩)
                    | (go_at_call 20; refine HPJ.out.mono ?_; rintro e w' ⟨rfl, rfl⟩))
                  go_roundw
                  case rel => exact ⟨j + 1, by omega, by go_num, by rw [HF.out], trivial⟩
                  case measure => simp [intOf]; omega
                · have hq2 : ((q : Int) == (k : Int)) = false := beq_false_of_ne (by omega)
                  have HF := hide (show fnd c k (j + 1) = fj from by rw [hfs, if_neg (fun h1 => hq h1.2)])
                  clear hs hfs ck HC hq HSN HX
                  go_wp2_with (first
                    | (go_at_call 19; refine HTJ.out.mono ?_; rintro e w' ⟨rfl, rfl⟩)
                    | (go_at_call 20; refine HPJ.out.mono ?_; rintro e w' ⟨rfl, rfl⟩))
                  go_roundw
                  case rel => exact ⟨j + 1, by omega, by go_num, by rw [HF.out], trivial⟩
                  case measure => simp [intOf]; omega
            · obtain rfl : j = k := by omega
              have hne : ¬ ((j : Int) < (j : Int)) := by omega
              generalize fnd c j j = q at *
              clear HC ck
              go_wp2_with (at_builtin; refine wpList_append_row _ rfl (.tmp 45) (.tmp 47) 22 rfl w.heap.size 3 ii (.int .i64 0) 8 Try.underlying22 HII.out HY0.out HY1.out HY2.out rfl _ j _ rfl (HOW.out.alloc _) .i64 _ 1 1 [q] rfl (row_one _ W.heap.size rfl q) (by omega) (by omega) (by simp; omega) ?_; intro v2 w2 hown2 hb2)
              have HM := hide (HSN.out _ v2 w2 _ HX.out hb2 hown2)
              clear hown2 hb2 HSN HX
              go_wp2
              exact ⟨⟨j + 1, by omega, by go_num, HM⟩, by simp [intOf]; omega⟩
        · have hx2 : (c.getD k 0 == 23) = false := beq_false_of_ne hx
          have HX := hide (show Iso.mt c k = (k : Int) from by unfold Iso.mt; rw [if_neg (by rw [hs]; decide), if_neg hx])
          generalize c.getD k 0 = x at *
          clear hs hx hm hkl
          go_wp2_with (first
            | (go_at_call 19; refine HT.out.mono ?_; rintro e w' ⟨rfl, rfl⟩)
            | (at_builtin; refine wpList_append_row _ rfl (.tmp 45) (.tmp 47) 22 rfl w.heap.size 3 ii (.int .i64 0) 8 Try.underlying22 HII.out HY0.out HY1.out HY2.out rfl _ k _ rfl (HOW.out.alloc _) .i64 _ 1 1 [(k : Int)] rfl (row_one _ wr.heap.size rfl (k : Int)) (by omega) (by omega) (by simp; omega) ?_; intro v2 w2 hown2 hb2))
          have HM := hide (HSN.out _ v2 w2 _ HX.out hb2 hown2)
          clear hown2 hb2
          go_wp2
          go_roundw
          case rel => exact ⟨k + 1, by omega, by go_num, HM⟩
          case measure => simp [intOf]; omega
    · obtain rfl : k = n := by omega
      have hne : ¬ ((k : Int) < (k : Int)) := by omega
      have ho := hm.out.own
      rw [show mtP c k = Iso.MT c from by unfold mtP Iso.MT; rw [HL.out]] at ho
      obtain ⟨a1, c1, rfl, hr⟩ := row_of_owns ho
      have HR := hide hr
      have HB := hide hm.out.bel
      clear hm ho hr
      go_wp2
      go_ret
      exact ⟨a1, c1, rfl, HR.out, HB.out⟩
end Go.Proofs.Ytfdfoojagngnnaa
