/- rules, behind, Step, Resolve. -/
import Derived.Test.YtkajiagflcflpaaWc
import Derived.Laws.CopyOwn
namespace Go.Proofs.Ytkajiagflcflpaa
open Go.RowKit
set_option linter.unusedVariables false
set_option maxHeartbeats 1000000
set_option maxRecDepth 100000
/-- The rules' functions, in their order. -/
def rfn : Nat → Nat
  | 0 => 19
  | 1 => 20
  | 2 => 21
  | 3 => 22
  | 4 => 23
  | 5 => 24
  | _ => 25
/-- A block that holds them. -/
structure FC (w : World) (b : Nat) : Prop where
  lt : b < w.heap.size
  cells : ∀ j, j < 7 → w.cell? ⟨b, j, none⟩ = some (.func (.func (rfn j)) #[] #[])
theorem FC.keep {w w' : World} {b B : Nat} (h : FC w b) (hb : Below B w w') (hB : b < B) : FC w' b :=
  ⟨Nat.lt_of_lt_of_le h.lt hb.size, fun j hj => (hb.cell (by exact hB)).trans (h.cells j hj)⟩
theorem rules_any (w : World) : Calls Try.prog 15 #[] w fun e w' => e = .returned (.slice (some ⟨w.heap.size, 0, none⟩) 7 7) ∧ FC w' w.heap.size ∧ KO w w' := by
  go_enter Try.func15, Try.ntmps15
  go_wp2
  go_ret
  refine ⟨rfl, ⟨by simp, fun j hj => ?_⟩, KO.alloc (KO.refl _) _⟩
  rw [World.cell?_alloc_mark]
  have hj' : j = 0 ∨ j = 1 ∨ j = 2 ∨ j = 3 ∨ j = 4 ∨ j = 5 ∨ j = 6 := by omega
  rcases hj' with rfl | rfl | rfl | rfl | rfl | rfl | rfl <;> rfl
theorem rule_any (j : Nat) (hj : j < 7) (base g n cap : Nat) (s : Int) (hs : We.Side s) (zs : List Int) (w0 w : World) (h : OW base g n cap zs w0 w) (hn : n ≤ 17592186044416) :
    Calls Try.prog (rfn j) #[.slice (some ⟨g, 0, none⟩) n cap, .int .i64 s] w fun e w' => e = .returned (.tuple #[]) ∧ OW base g n cap (We.R (j + 1) s zs) w0 w' := by
  have hj' : j = 0 ∨ j = 1 ∨ j = 2 ∨ j = 3 ∨ j = 4 ∨ j = 5 ∨ j = 6 := by omega
  rcases hj' with rfl | rfl | rfl | rfl | rfl | rfl | rfl
  · exact marks_any base g n cap s zs w0 w h hn
  · exact arabicNumbers_any base g n cap s zs w0 w h hn
  · exact arabicLetters_any base g n cap s zs w0 w h hn
  · exact separators_any base g n cap s hs zs w0 w h hn
  · exact terminators_any base g n cap s zs w0 w h hn
  · exact leftovers_any base g n cap s zs w0 w h hn
  · exact latinNumbers_any base g n cap s zs w0 w h hn
/-- Behind k rules from one on. -/
def RF (r0 : Nat) (s : Int) (t : List Int) : Nat → List Int
  | 0 => t
  | k + 1 => We.R (r0 + k + 1) s (RF r0 s t k)
theorem RF_succ (r0 : Nat) (s : Int) (t : List Int) (k : Nat) : RF r0 s t (k + 1) = We.R (r0 + k + 1) s (RF r0 s t k) := rfl
theorem RF_zero (s : Int) (t : List Int) (k : Nat) : RF 0 s t k = We.RR s t k := by
  induction k with
  | zero => rfl
  | succ k ih => rw [RF_succ, ih, Nat.zero_add, We.RR_succ]
theorem owns_block {w : World} {base g n : Nat} {cur : Array Value} {zs : List Int} (hg : w.heap[g]? = some (.cells cur 3 (0, 0))) (hl : cur.toList = zs.map (Value.int .i64)) (hn : zs.length = n) (hm : n ≤ maxLen) (hb : base ≤ g) :
    w.ownsRow base 3 1 (.slice (some ⟨g, 0, none⟩) n n) n (zs.map (Value.int .i64)) := by
  have hs : cur.size = n := by rw [← Array.length_toList, hl, List.length_map, hn]
  refine ⟨by rw [List.length_map, hn, Nat.mul_one], .inr ⟨g, n, cur, rfl, hb, hg, Nat.le_refl _, hm, by rw [hs, Nat.mul_one], ?_⟩⟩
  rw [Nat.mul_one, hl, List.take_of_length_le (by rw [List.length_map, hn]; exact Nat.le_refl _)]
theorem block_owns {w : World} {base g n : Nat} {xs : List Value} (h : w.ownsRow base 3 1 (.slice (some ⟨g, 0, none⟩) n n) n xs) : w.heap[g]? = some (.cells xs.toArray 3 (0, 0)) := by
  rcases h.2 with ⟨h0, _⟩ | ⟨g', cap', cur, hv, hbs, hh, hle, hm, hsz, ht⟩
  · cases h0
  · cases hv
    rw [hh]
    have : cur.toList.take (n * 1) = cur.toList := List.take_of_length_le (by rw [Array.length_toList, hsz]; exact Nat.le_refl _)
    rw [this] at ht
    rw [← ht]
theorem splice_all (xs cs : List Value) (h : xs.length = cs.length) : splice xs 0 cs = cs := by
  unfold splice
  simp [← h]
theorem sizeInt : (Try.prog.info? 3).map (·.size) = some 1 := by kernel_rfl
/-- An argument's cells, for a copy. -/
theorem Row.src {w : World} {ao : Option Addr} {n cap : Nat} {zs : List Int} (h : Row .i64 w ao n cap zs) (h0 : 0 < n) : ∃ ad, ao = some ad ∧ ∀ j v, (zs.map (Value.int .i64))[j]? = some v → w.cell? (ad.add j) = some v := by
  obtain ⟨b, off, rfl, hb, hc⟩ := h.cells h0
  refine ⟨_, rfl, fun j v hj => ?_⟩
  have hjl : j < zs.length := by
    have := (List.getElem?_eq_some_iff.1 hj).1
    simpa using this
  have hadd : (⟨b, off, none⟩ : Addr).add j = ⟨b, off + j, none⟩ := by unfold Addr.add; split <;> simp_all
  rw [hadd, hc j hjl]
  rw [List.getElem?_map, List.getElem?_eq_getElem hjl] at hj
  simp only [Option.map_some, Option.some.injEq] at hj
  rw [← hj]
  simp [List.getD, List.getElem?_eq_getElem hjl]
/-- 'copy' of a whole row into one that is as long. -/
theorem run_copy_ints {w1 w0 : World} {B g n cap : Nat} {ao : Option Addr} {c : List Int} {cur : List Value} (h : Row .i64 w1 ao n cap c) (hg : w1.heap[g]? = some (.cells cur.toArray 3 (0, 0))) (hl : cur.length = n) (hb : Below B w0 w1) (hB : B ≤ g) :
    ∃ w2, (Builtin.copy_ #[22, 22] 3 #[.slice (some ⟨g, 0, none⟩) n n, .slice ao n cap]).run Try.prog w1 = .ok (.int .i64 (n : Int)) w2 ∧ w2.heap[g]? = some (.cells (c.map (Value.int .i64)).toArray 3 (0, 0)) ∧ Below B w0 w2 := by
  have hcl : (c.map (Value.int .i64)).length = n := by rw [List.length_map, h.len]
  by_cases h0 : n = 0
  · have hrun := run_copy_none (P := Try.prog) w1 22 22 3 3 (some ⟨g, 0, none⟩) ao n n n cap Try.underlying22 sizeInt (by rw [h0]; rfl)
    refine ⟨w1, by rw [hrun, h0]; rfl, ?_, hb⟩
    have e1 : cur = [] := List.eq_nil_of_length_eq_zero (by omega)
    have e2 : c = [] := List.eq_nil_of_length_eq_zero (by rw [h.len]; exact h0)
    rw [hg, e1, e2]; rfl
  · obtain ⟨ad, rfl, hsrc⟩ := h.src (by omega)
    have hrun := run_copy_row (P := Try.prog) w1 22 22 3 3 g 0 n n ad n cap cur.toArray 3 (c.map (Value.int .i64)) Try.underlying22 sizeInt hg (by rw [hcl]; exact (Nat.min_self n).symm) hsrc (by rw [hcl, List.size_toArray]; omega) (ints_oneCell .i64 c)
    refine ⟨_, by rw [hrun, hcl]; rfl, ?_, below_setRow hb hB _⟩
    rw [setRow_heap w1 g _ _ _ _ hg]
    have := splice_all cur (c.map (Value.int .i64)) (by rw [hcl, hl])
    unfold splice at this
    rw [hcl] at this
    rw [List.append_assoc, this]
theorem behind_side (ao : Option Addr) (n cap : Nat) (s : Int) (v : Value) (w : World) (hs : ¬ We.Side s) :
    Calls Try.prog 16 #[.slice ao n cap, .int .i64 s, v] w fun e w' => e = .returned (.tuple #[.slice none 0 0, .int .i64 2]) ∧ w = w' := by
  have h1 : (s != 1) = true := bne_iff_ne.2 (fun h => hs (.inl h))
  have h2 : (s != 2) = true := bne_iff_ne.2 (fun h => hs (.inr h))
  clear hs
  go_enter Try.func16, Try.ntmps16
  go_wp2
  go_ret2
  exact ⟨rfl, rfl⟩
theorem side_tests {s : Int} (h : We.Side s) : (s = 1) ∨ (¬ s = 1 ∧ s = 2) := by unfold We.Side at h; omega
theorem behind_form (ao : Option Addr) (n cap : Nat) (s : Int) (v : Value) (c : List Int) (w : World) (h : Row .i64 w ao n cap c) (hn : n ≤ 17592186044416) (hs : We.Side s) (hb : ¬ We.Ok c) :
    Calls Try.prog 16 #[.slice ao n cap, .int .i64 s, v] w fun e w' => e = .returned (.tuple #[.slice none 0 0, .int .i64 50]) ∧ w = w' := by
  have H := hide h
  have HL := hide h.len
  have HB := hide hb
  clear h hb
  have hs' := side_tests hs
  clear hs
  rcases hs' with rfl | ⟨h1, rfl⟩
  all_goals
    go_enter Try.func16, Try.ntmps16
    go_wp2
    go_loopw [21] (fun v wr => ∃ k : Nat, v = .int .i64 (k : Int) ∧ k ≤ n ∧ Hid (∀ i, i < k → We.May (c.getD i 0)) ∧ w = wr) (fun v _ => n - (intOf v).toNat)
    case atStart => exact ⟨0, rfl, Nat.zero_le _, hide (fun i hi => by omega), rfl⟩
    case round =>
      obtain ⟨k, rfl, hk, hall, rfl⟩ := hrel
      by_cases hlt : k < n
      · obtain ⟨b, off, rfl, hbl, hc⟩ := H.out.cells (by omega)
        have ck : w.cell? ⟨b, off + k, none⟩ = some (.int .i64 (c.getD k 0)) := hc k (by rw [HL.out]; exact hlt)
        have hin : (k : Int) < (n : Int) := by omega
        have HM := hide (mayBe_any (c.getD k 0) w)
        have HN := hide (fun (h : We.May (c.getD k 0)) (i : Nat) (hi : i < k + 1) => (show We.May (c.getD i 0) from by
          by_cases hik : i = k
          · rw [hik]; exact h
          · exact hall.out i (by omega)))
        generalize c.getD k 0 = x at *
        clear hc hall
        by_cases hm : We.May x
        · rw [decide_eq_true hm] at HM
          have HA := hide (HN.out hm)
          clear HN hm
          go_wp2_with (go_at_call 26; refine HM.out.mono ?_; rintro e w' ⟨rfl, rfl⟩)
          go_roundw
          case rel => exact ⟨k + 1, by go_num, by omega, HA, trivial⟩
          case measure => simp [intOf]; omega
        · rw [decide_eq_false hm] at HM
          clear HN hm
          go_wp2_with (go_at_call 26; refine HM.out.mono ?_; rintro e w' ⟨rfl, rfl⟩)
          go_ret2
          exact ⟨rfl, rfl⟩
      · exact absurd (fun i hi => hall.out i (by rw [HL.out] at hi; omega)) HB.out
theorem behind_ok (ao : Option Addr) (n cap : Nat) (s : Int) (b r0 m cp : Nat) (c : List Int) (w : World) (h : Row .i64 w ao n cap c) (hn : n * 8 ≤ 140737488351232) (hs : We.Side s) (hok : We.Ok c) (hf : FC w b) (hm : r0 + m ≤ 7) :
    Calls Try.prog 16 #[.slice ao n cap, .int .i64 s, .slice (some ⟨b, r0, none⟩) m cp] w fun e w' => e = .returned (.tuple #[.slice (some ⟨w.heap.size, 0, none⟩) n n, .int .i64 0]) ∧ OW w.heap.size w.heap.size n n (RF r0 s c m) w w' := by
  obtain ⟨ii, hii, hy0, hy1, hy2⟩ := info_parts infoInt
  have HII : Hid (Try.prog.info? 3 = some ii) := hii
  have HY0 := hide hy0
  have HY1 := hide hy1
  have HY2 := hide hy2
  have H := hide h
  have HL := hide h.len
  have HB := hide hok
  have HF := hide hf
  have hn2 : n ≤ 17592186044416 := by omega
  have hs' := side_tests hs
  have HS := hide hs
  clear h hok hf hii hy0 hy1 hy2 hs
  obtain ⟨Z, hZ⟩ : ∃ Z, RF r0 s c m = Z := ⟨_, rfl⟩
  have HZ := hide hZ
  rw [hZ]
  clear hZ
  have HRU := hide (fun (j : Nat) (hj : j < 7) (zs : List Int) (w' : World) (h : OW w.heap.size w.heap.size n n zs w w') => rule_any j hj w.heap.size w.heap.size n n s HS.out zs w w' h hn2)
  have HRF := hide (fun (k : Nat) => RF_succ r0 s c k)
  obtain ⟨F, hF⟩ : ∃ F : Nat → List Int, F = RF r0 s c := ⟨_, rfl⟩
  rw [← hF] at HRF HZ
  have HR0 := hide (show F 0 = c from by rw [hF]; rfl)
  clear hF HS
  rcases hs' with rfl | ⟨h1, rfl⟩
  all_goals
    go_enter Try.func16, Try.ntmps16
    go_wp2
    go_loopw [21] (fun v wr => ∃ k : Nat, v = .int .i64 (k : Int) ∧ k ≤ n ∧ w = wr) (fun v _ => n - (intOf v).toNat)
    case atStart => exact ⟨0, rfl, Nat.zero_le _, rfl⟩
    case round =>
      obtain ⟨k, rfl, hk, rfl⟩ := hrel
      by_cases hlt : k < n
      · obtain ⟨bb, off, rfl, hbl, hc⟩ := H.out.cells (by omega)
        have hkl : k < c.length := by rw [HL.out]; exact hlt
        have ck : w.cell? ⟨bb, off + k, none⟩ = some (.int .i64 (c.getD k 0)) := hc k hkl
        have hin : (k : Int) < (n : Int) := by omega
        have HM := hide (mayBe_any (c.getD k 0) w)
        rw [decide_eq_true (HB.out k hkl)] at HM
        generalize c.getD k 0 = x at *
        clear hc hkl
        go_wp2_with (go_at_call 26; refine HM.out.mono ?_; rintro e w' ⟨rfl, rfl⟩)
        go_roundw
        case rel => exact ⟨k + 1, by go_num, by omega, trivial⟩
        case measure => simp [intOf]; omega
      · obtain rfl : k = n := by omega
        have hne : ¬ ((k : Int) < (k : Int)) := by omega
        clear hlt hk
        go_wp2_with (at_make; refine wpList_make_full _ rfl _ _ 22 rfl w.heap.size 3 ii (.int .i64 0) 1 Try.underlying22 HII.out HY0.out HY1.out _ _ _ _ k rfl rfl rfl rfl ?b2 ?b3 (Nat.le_refl _) ?_)
        case b2 => rw [HY2.out]; omega
        case b3 => unfold maxLen; omega
        intro w1 hown hgrow
        have hbel := (Below.refl w.heap.size w).grown hgrow (Nat.le_refl _) (fun _ h => by cases h)
        obtain ⟨cur, hcg, hcl⟩ : ∃ cur : List Value, w1.heap[w.heap.size]? = some (.cells cur.toArray 3 (0, 0)) ∧ cur.length = k := ⟨_, block_owns hown, by have := hown.1; rw [Nat.mul_one] at this; exact this⟩
        have HG := hide hcg
        have HGL := hide hcl
        have HBE := hide hbel
        have HR1 := hide (H.out.below hbel)
        clear hown hgrow hbel hcg hcl
        obtain ⟨w2, hcp, hg2, hb2⟩ := run_copy_ints HR1.out HG.out HGL.out HBE.out (Nat.le_refl _)
        have HO := hide (show OW w.heap.size w.heap.size k k (F 0) w w2 from by
          refine ⟨owns_block hg2 ?_ ?_ ?_ (Nat.le_refl _), hb2⟩
          · rw [HR0.out]
          · rw [HR0.out, HL.out]
          · unfold maxLen; omega)
        clear hg2 hb2 HG HGL HR1 HBE
        go_wp2
        clear hcp
        go_loopw [37] (fun v wr => ∃ j : Nat, v = .int .i64 (j : Int) ∧ j ≤ m ∧ Hid (OW w.heap.size w.heap.size k k (F j) w wr)) (fun v _ => m - (intOf v).toNat)
        case atStart => exact ⟨0, rfl, Nat.zero_le _, HO⟩
        case round =>
          obtain ⟨j, rfl, hj, hO⟩ := hrel
          by_cases hjm : j < m
          · have hin : (j : Int) < (m : Int) := by omega
            have cf := (HF.out.keep hO.out.bel HF.out.lt).cells (r0 + j) (by omega)
            have HC := hide (HRU.out (r0 + j) (by omega) (F j) wr hO.out)
            rw [← HRF.out j] at HC
            have HM := hide (meas_n0 m j hjm)
            clear hO
            have hj7 : r0 + j = 0 ∨ r0 + j = 1 ∨ r0 + j = 2 ∨ r0 + j = 3 ∨ r0 + j = 4 ∨ r0 + j = 5 ∨ r0 + j = 6 := by omega
            obtain ⟨fno, hfno⟩ : ∃ fno, rfn (r0 + j) = fno := ⟨_, rfl⟩
            rw [hfno] at cf HC
            have hall : fno = 19 ∨ fno = 20 ∨ fno = 21 ∨ fno = 22 ∨ fno = 23 ∨ fno = 24 ∨ fno = 25 := by
              rw [← hfno]
              rcases hj7 with h | h | h | h | h | h | h <;> rw [h] <;> decide
            clear hfno hj7
            rcases hall with rfl | rfl | rfl | rfl | rfl | rfl | rfl
            all_goals
              go_wp2_with fail
              refine HC.out.mono ?_
              rintro e w3 ⟨rfl, hO3⟩
              have HO3 := hide hO3
              clear hO3 HC cf
              go_wp2
              go_roundw
              case rel => exact ⟨j + 1, by go_num, by omega, HO3⟩
              case measure => simp [intOf]; omega
          · obtain rfl : j = m := by omega
            have hne : ¬ ((j : Int) < (j : Int)) := by omega
            rw [HZ.out] at hO
            clear hjm
            go_wp2
            go_ret2
            exact ⟨rfl, hO.out⟩
end Go.Proofs.Ytkajiagflcflpaa
