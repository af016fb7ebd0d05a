import Derived.Test.YtmdmehopefgndaaGreatDoorZ25
import Derived.Laws.CopyOwn
import Derived.Test.YtmdmehopefgndaaGreatDoorZ18
import Derived.Test.YtmdmehopefgndaaGreatDoorZ22
import Derived.Test.YtmdmehopefgndaaGreatDoorZ24
import Derived.Test.YtmdmehopefgndaaGreatDoorZ01
/- rules, behind, Step, Resolve. -/
namespace Go.Proofs.YtmdmehopefgndaaGreatDoor
open Go.RowKit
set_option linter.unusedVariables false
set_option maxHeartbeats 1000000
set_option maxRecDepth 100000
/-- The rules' functions, in their order. -/
def rfn : Nat → Nat
  | 0 => 105
  | 1 => 106
  | 2 => 107
  | 3 => 108
  | 4 => 109
  | 5 => 110
  | _ => 111
/-- A block that holds them. -/
structure FC (w : World) (b : Nat) : Prop where
  lt : b < w.heap.size
  cells : ∀ j, j < 7 → w.cell? ⟨b, j, none⟩ = some (.func (.func (rfn j)) #[] #[])
theorem FC.keep {w w' : World} {b B : Nat} (h : FC w b) (hb : Below B w w') (hB : b < B) : FC w' b :=
  ⟨Nat.lt_of_lt_of_le h.lt hb.size, fun j hj => (hb.cell (by exact hB)).trans (h.cells j hj)⟩
theorem wrules_any (w : World) : Calls Tryz.prog 88 #[] w fun e w' => e = .returned (.slice (some ⟨w.heap.size, 0, none⟩) 7 7) ∧ FC w' w.heap.size ∧ KO w w' := by
  go_enter Tryz.func88, Tryz.ntmps88
  go_wp2
  go_ret
  refine ⟨rfl, ⟨by simp, fun j hj => ?_⟩, KO.alloc (KO.refl _) _⟩
  rw [World.cell?_alloc_mark]
  have hj' : j = 0 ∨ j = 1 ∨ j = 2 ∨ j = 3 ∨ j = 4 ∨ j = 5 ∨ j = 6 := by omega
  rcases hj' with rfl | rfl | rfl | rfl | rfl | rfl | rfl <;> rfl
theorem wrule_any (j : Nat) (hj : j < 7) (base g n cap : Nat) (s : Int) (hs : We.Side s) (zs : List Int) (w0 w : World) (h : OW base g n cap zs w0 w) (hn : n ≤ 17592186044416) :
    Calls Tryz.prog (rfn j) #[.slice (some ⟨g, 0, none⟩) n cap, .int .i64 s] w fun e w' => e = .returned (.tuple #[]) ∧ OW base g n cap (We.R (j + 1) s zs) w0 w' := by
  have hj' : j = 0 ∨ j = 1 ∨ j = 2 ∨ j = 3 ∨ j = 4 ∨ j = 5 ∨ j = 6 := by omega
  rcases hj' with rfl | rfl | rfl | rfl | rfl | rfl | rfl
  · exact marks_any base g n cap s zs w0 w h hn
  · exact arabicNumbers_any base g n cap s zs w0 w h hn
  · exact arabicLetters_any base g n cap s zs w0 w h hn
  · exact separators_any base g n cap s hs zs w0 w h hn
  · exact terminators_any base g n cap s zs w0 w h hn
  · exact leftovers_any base g n cap s zs w0 w h hn
  · exact latinNumbers_any base g n cap s zs w0 w h hn
/-- Behind k rules from one on. -/
def RF (r0 : Nat) (s : Int) (t : List Int) : Nat → List Int
  | 0 => t
  | k + 1 => We.R (r0 + k + 1) s (RF r0 s t k)
theorem RF_succ (r0 : Nat) (s : Int) (t : List Int) (k : Nat) : RF r0 s t (k + 1) = We.R (r0 + k + 1) s (RF r0 s t k) := rfl
theorem RF_zero (s : Int) (t : List Int) (k : Nat) : RF 0 s t k = We.RR s t k := by
  induction k with
  | zero => rfl
  | succ k ih => rw [RF_succ, ih, Nat.zero_add, We.RR_succ]
theorem behind_side (ao : Option Addr) (n cap : Nat) (s : Int) (v : Value) (w : World) (hs : ¬ We.Side s) :
    Calls Tryz.prog 87 #[.slice ao n cap, .int .i64 s, v] w fun e w' => e = .returned (.tuple #[.slice none 0 0, .int .i64 2]) ∧ w = w' := by
  have h1 : (s != 1) = true := bne_iff_ne.2 (fun h => hs (.inl h))
  have h2 : (s != 2) = true := bne_iff_ne.2 (fun h => hs (.inr h))
  clear hs
  go_enter Tryz.func87, Tryz.ntmps87
  go_wp2
  go_ret2
  exact ⟨rfl, rfl⟩
theorem side_tests {s : Int} (h : We.Side s) : (s = 1) ∨ (¬ s = 1 ∧ s = 2) := by unfold We.Side at h; omega
theorem behind_form (ao : Option Addr) (n cap : Nat) (s : Int) (v : Value) (c : List Int) (w : World) (h : Row .i64 w ao n cap c) (hn : n ≤ 17592186044416) (hs : We.Side s) (hb : ¬ We.Ok c) :
    Calls Tryz.prog 87 #[.slice ao n cap, .int .i64 s, v] w fun e w' => e = .returned (.tuple #[.slice none 0 0, .int .i64 50]) ∧ w = w' := by
  have H := hide h
  have HL := hide h.len
  have HB := hide hb
  clear h hb
  have hs' := side_tests hs
  clear hs
  rcases hs' with rfl | ⟨h1, rfl⟩
  all_goals
    go_enter Tryz.func87, Tryz.ntmps87
    go_wp2
    go_loopw [21] (fun v wr => ∃ k : Nat, v = .int .i64 (k : Int) ∧ k ≤ n ∧ Hid (∀ i, i < k → We.May (c.getD i 0)) ∧ w = wr) (fun v _ => n - (intOf v).toNat)
    case atStart => exact ⟨0, rfl, Nat.zero_le _, hide (fun i hi => by omega), rfl⟩
    case round =>
      obtain ⟨k, rfl, hk, hall, rfl⟩ := hrel
      by_cases hlt : k < n
      · obtain ⟨b, off, rfl, hbl, hc⟩ := H.out.cells (by omega)
        have ck : w.cell? ⟨b, off + k, none⟩ = some (.int .i64 (c.getD k 0)) := hc k (by rw [HL.out]; exact hlt)
        have hin : (k : Int) < (n : Int) := by omega
        have HM := hide (mayBe_any (c.getD k 0) w)
        have HN := hide (fun (h : We.May (c.getD k 0)) (i : Nat) (hi : i < k + 1) => (show We.May (c.getD i 0) from by
          by_cases hik : i = k
          · rw [hik]; exact h
          · exact hall.out i (by omega)))
        generalize c.getD k 0 = x at *
        clear hc hall
        by_cases hm : We.May x
        · rw [decide_eq_true hm] at HM
          have HA := hide (HN.out hm)
          clear HN hm
          go_wp2_with (go_at_call 104; refine HM.out.mono ?_; rintro e w' ⟨rfl, rfl⟩)
          go_roundw
          case rel => exact ⟨k + 1, by go_num, by omega, HA, trivial⟩
          case measure => simp [intOf]; omega
        · rw [decide_eq_false hm] at HM
          clear HN hm
          go_wp2_with (go_at_call 104; refine HM.out.mono ?_; rintro e w' ⟨rfl, rfl⟩)
          go_ret2
          exact ⟨rfl, rfl⟩
      · exact absurd (fun i hi => hall.out i (by rw [HL.out] at hi; omega)) HB.out
theorem behind_ok (ao : Option Addr) (n cap : Nat) (s : Int) (b r0 m cp : Nat) (c : List Int) (w : World) (h : Row .i64 w ao n cap c) (hn : n * 8 ≤ 140737488351232) (hs : We.Side s) (hok : We.Ok c) (hf : FC w b) (hm : r0 + m ≤ 7) :
    Calls Tryz.prog 87 #[.slice ao n cap, .int .i64 s, .slice (some ⟨b, r0, none⟩) m cp] w fun e w' => e = .returned (.tuple #[.slice (some ⟨w.heap.size, 0, none⟩) n n, .int .i64 0]) ∧ OW w.heap.size w.heap.size n n (RF r0 s c m) w w' := by
  obtain ⟨ii, hii, hy0, hy1, hy2⟩ := info_parts infoInt
  have HII : Hid (Tryz.prog.info? 3 = some ii) := hii
  have HY0 := hide hy0
  have HY1 := hide hy1
  have HY2 := hide hy2
  have H := hide h
  have HL := hide h.len
  have HB := hide hok
  have HF := hide hf
  have hn2 : n ≤ 17592186044416 := by omega
  have hs' := side_tests hs
  have HS := hide hs
  clear h hok hf hii hy0 hy1 hy2 hs
  obtain ⟨Z, hZ⟩ : ∃ Z, RF r0 s c m = Z := ⟨_, rfl⟩
  have HZ := hide hZ
  rw [hZ]
  clear hZ
  have HRU := hide (fun (j : Nat) (hj : j < 7) (zs : List Int) (w' : World) (h : OW w.heap.size w.heap.size n n zs w w') => wrule_any j hj w.heap.size w.heap.size n n s HS.out zs w w' h hn2)
  have HRF := hide (fun (k : Nat) => RF_succ r0 s c k)
  obtain ⟨F, hF⟩ : ∃ F : Nat → List Int, F = RF r0 s c := ⟨_, rfl⟩
  rw [← hF] at HRF HZ
  have HR0 := hide (show F 0 = c from by rw [hF]; rfl)
  clear hF HS
  rcases hs' with rfl | ⟨h1, rfl⟩
  all_goals
    go_enter Tryz.func87, Tryz.ntmps87
    go_wp2
    go_loopw [21] (fun v wr => ∃ k : Nat, v = .int .i64 (k : Int) ∧ k ≤ n ∧ w = wr) (fun v _ => n - (intOf v).toNat)
    case atStart => exact ⟨0, rfl, Nat.zero_le _, rfl⟩
    case round =>
      obtain ⟨k, rfl, hk, rfl⟩ := hrel
      by_cases hlt : k < n
      · obtain ⟨bb, off, rfl, hbl, hc⟩ := H.out.cells (by omega)
        have hkl : k < c.length := by rw [HL.out]; exact hlt
        have ck : w.cell? ⟨bb, off + k, none⟩ = some (.int .i64 (c.getD k 0)) := hc k hkl
        have hin : (k : Int) < (n : Int) := by omega
        have HM := hide (mayBe_any (c.getD k 0) w)
        rw [decide_eq_true (HB.out k hkl)] at HM
        generalize c.getD k 0 = x at *
        clear hc hkl
        go_wp2_with (go_at_call 104; refine HM.out.mono ?_; rintro e w' ⟨rfl, rfl⟩)
        go_roundw
        case rel => exact ⟨k + 1, by go_num, by omega, trivial⟩
        case measure => simp [intOf]; omega
      · obtain rfl : k = n := by omega
        have hne : ¬ ((k : Int) < (k : Int)) := by omega
        clear hlt hk
        go_wp2_with (at_make; refine wpList_make_full _ rfl _ _ 27 rfl w.heap.size 3 ii (.int .i64 0) 1 Tryz.underlying27 HII.out HY0.out HY1.out _ _ _ _ k rfl rfl rfl rfl ?b2 ?b3 (Nat.le_refl _) ?_)
        case b2 => rw [HY2.out]; omega
        case b3 => unfold maxLen; omega
        intro w1 hown hgrow
        have hbel := (Below.refl w.heap.size w).grown hgrow (Nat.le_refl _) (fun _ h => by cases h)
        obtain ⟨cur, hcg, hcl⟩ : ∃ cur : List Value, w1.heap[w.heap.size]? = some (.cells cur.toArray 3 (0, 0)) ∧ cur.length = k := ⟨_, block_owns hown, by have := hown.1; rw [Nat.mul_one] at this; exact this⟩
        have HG := hide hcg
        have HGL := hide hcl
        have HBE := hide hbel
        have HR1 := hide (H.out.below hbel)
        clear hown hgrow hbel hcg hcl
        obtain ⟨w2, hcp, hg2, hb2⟩ := run_copy_ints HR1.out HG.out HGL.out HBE.out (Nat.le_refl _)
        have HO := hide (show OW w.heap.size w.heap.size k k (F 0) w w2 from by
          refine ⟨owns_block hg2 ?_ ?_ ?_ (Nat.le_refl _), hb2⟩
          · rw [HR0.out]
          · rw [HR0.out, HL.out]
          · unfold maxLen; omega)
        clear hg2 hb2 HG HGL HR1 HBE
        go_wp2
        clear hcp
        go_loopw [37] (fun v wr => ∃ j : Nat, v = .int .i64 (j : Int) ∧ j ≤ m ∧ Hid (OW w.heap.size w.heap.size k k (F j) w wr)) (fun v _ => m - (intOf v).toNat)
        case atStart => exact ⟨0, rfl, Nat.zero_le _, HO⟩
        case round =>
          obtain ⟨j, rfl, hj, hO⟩ := hrel
          by_cases hjm : j < m
          · have hin : (j : Int) < (m : Int) := by omega
            have cf := (HF.out.keep hO.out.bel HF.out.lt).cells (r0 + j) (by omega)
            have HC := hide (HRU.out (r0 + j) (by omega) (F j) wr hO.out)
            rw [← HRF.out j] at HC
            have HM := hide (meas_n0 m j hjm)
            clear hO
            have hj7 : r0 + j = 0 ∨ r0 + j = 1 ∨ r0 + j = 2 ∨ r0 + j = 3 ∨ r0 + j = 4 ∨ r0 + j = 5 ∨ r0 + j = 6 := by omega
            obtain ⟨fno, hfno⟩ : ∃ fno, rfn (r0 + j) = fno := ⟨_, rfl⟩
            rw [hfno] at cf HC
            have hall : fno = 105 ∨ fno = 106 ∨ fno = 107 ∨ fno = 108 ∨ fno = 109 ∨ fno = 110 ∨ fno = 111 := by
              rw [← hfno]
              rcases hj7 with h | h | h | h | h | h | h <;> rw [h] <;> decide
            clear hfno hj7
            rcases hall with rfl | rfl | rfl | rfl | rfl | rfl | rfl
            all_goals
              go_wp2_with fail
              refine HC.out.mono ?_
              rintro e w3 ⟨rfl, hO3⟩
              have HO3 := hide hO3
              clear hO3 HC cf
              go_wp2
              go_roundw
              case rel => exact ⟨j + 1, by go_num, by omega, HO3⟩
              case measure => simp [intOf]; omega
          · obtain rfl : j = m := by omega
            have hne : ¬ ((j : Int) < (j : Int)) := by omega
            rw [HZ.out] at hO
            clear hjm
            go_wp2
            go_ret2
            exact ⟨rfl, hO.out⟩
end Go.Proofs.YtmdmehopefgndaaGreatDoor

/- Step, Resolve. -/
namespace Go.Proofs.YtmdmehopefgndaaGreatDoor
open Go.RowKit
set_option linter.unusedVariables false
set_option maxHeartbeats 1000000
set_option maxRecDepth 100000
theorem wresolve_side (ao : Option Addr) (n cap : Nat) (s : Int) (w : World) (hs : ¬ We.Side s) :
    Calls Tryz.prog 82 #[.slice ao n cap, .int .i64 s] w fun e w' => e = .returned (.tuple #[.slice none 0 0, .int .i64 2]) ∧ KO w w' := by
  have HR := hide (wrules_any w)
  have HB := hide (fun v w' => behind_side ao n cap s v w' hs)
  clear hs
  go_enter Tryz.func82, Tryz.ntmps82
  go_wp2_with fail
  refine HR.out.mono ?_
  rintro e w1 ⟨rfl, hf, hk⟩
  have HK := hide hk
  clear hf hk
  go_wp2_with fail
  refine (HB.out _ _).mono ?_
  rintro e w2 ⟨rfl, rfl⟩
  go_wp2
  go_ret2
  exact ⟨rfl, HK.out⟩
theorem wresolve_form (ao : Option Addr) (n cap : Nat) (s : Int) (c : List Int) (w : World) (h : Row .i64 w ao n cap c) (hn : n ≤ 17592186044416) (hs : We.Side s) (hb : ¬ We.Ok c) :
    Calls Tryz.prog 82 #[.slice ao n cap, .int .i64 s] w fun e w' => e = .returned (.tuple #[.slice none 0 0, .int .i64 50]) ∧ KO w w' := by
  have HR := hide (wrules_any w)
  have HB := hide (fun v w' (hk : KO w w') => behind_form ao n cap s v c w' (h.below hk) hn hs hb)
  clear hs hb h
  go_enter Tryz.func82, Tryz.ntmps82
  go_wp2_with fail
  refine HR.out.mono ?_
  rintro e w1 ⟨rfl, hf, hk⟩
  have HK := hide hk
  clear hf hk
  go_wp2_with fail
  refine (HB.out _ _ HK.out).mono ?_
  rintro e w2 ⟨rfl, rfl⟩
  go_wp2
  go_ret2
  exact ⟨rfl, HK.out⟩
/-- A row that the call has made. -/
structure New (w : World) (ao : Option Addr) (n cap : Nat) (zs : List Int) (w' : World) : Prop where
  row : Row .i64 w' ao n cap zs
  bel : KO w w'
theorem wresolve_ok (ao : Option Addr) (n cap : Nat) (s : Int) (c : List Int) (w : World) (h : Row .i64 w ao n cap c) (hn : n * 8 ≤ 140737488351232) (hs : We.Side s) (hb : We.Ok c) :
    Calls Tryz.prog 82 #[.slice ao n cap, .int .i64 s] w fun e w' => ∃ g, e = .returned (.tuple #[.slice (some ⟨g, 0, none⟩) n n, .int .i64 0]) ∧ New w (some ⟨g, 0, none⟩) n n (We.RR s c 7) w' := by
  have HR := hide (wrules_any w)
  have HB := hide (fun w' (hk : KO w w') (hf : FC w' w.heap.size) => behind_ok ao n cap s w.heap.size 0 7 7 c w' (h.below hk) hn hs hb hf (by omega))
  clear hs hb h
  go_enter Tryz.func82, Tryz.ntmps82
  go_wp2_with fail
  refine HR.out.mono ?_
  rintro e w1 ⟨rfl, hf, hk⟩
  have HB2 := hide (HB.out w1 hk hf)
  have HK := hide hk
  clear hf hk HB HR
  go_wp2_with fail
  refine HB2.out.mono ?_
  rintro e w2 ⟨rfl, hO⟩
  have HN := hide (show New w (some ⟨w1.heap.size, 0, none⟩) n n (We.RR s c 7) w2 from ⟨by rw [← RF_zero]; exact hO.row, KO.on HK.out hO.bel⟩)
  clear hO HB2
  go_wp2
  go_ret2
  exact ⟨_, rfl, HN.out⟩
end Go.Proofs.YtmdmehopefgndaaGreatDoor

/- What Resolve answers; the program's Resolve, whatever it answers. -/
namespace Go.Proofs.YtmdmehopefgndaaGreatDoor
open Go.RowKit
set_option linter.unusedVariables false
set_option maxHeartbeats 1000000
set_option maxRecDepth 100000
theorem new_nil {w w' : World} (hk : KO w w') : New w none 0 0 [] w' := ⟨row_nil .i64 w', hk⟩
/-- Resolve's answer. -/
def B9 (s : Int) (c L : List Int) (E : Int) : Prop :=
  (¬ We.Side s ∧ L = [] ∧ E = 2) ∨ (We.Side s ∧ ¬ We.Ok c ∧ L = [] ∧ E = 50) ∨ (We.Side s ∧ We.Ok c ∧ L = We.RR s c 7 ∧ E = 0)
theorem B9_some (s : Int) (c : List Int) : ∃ L E, B9 s c L E := by
  by_cases hs : We.Side s
  · by_cases ho : We.Ok c
    · exact ⟨_, _, .inr (.inr ⟨hs, ho, rfl, rfl⟩)⟩
    · exact ⟨_, _, .inr (.inl ⟨hs, ho, rfl, rfl⟩)⟩
  · exact ⟨_, _, .inl ⟨hs, rfl, rfl⟩⟩
theorem wresolve_any (ao : Option Addr) (n cap : Nat) (s : Int) (c L : List Int) (E : Int) (w : World) (h : Row .i64 w ao n cap c) (hn : n * 8 ≤ 140737488351232) (hA : B9 s c L E) :
    Calls Tryz.prog 82 #[.slice ao n cap, .int .i64 s] w fun e w' => ∃ a1 c1, e = .returned (.tuple #[.slice a1 L.length c1, .int .i64 E]) ∧ New w a1 L.length c1 L w' := by
  rcases hA with ⟨hs, rfl, rfl⟩ | ⟨hs, ho, rfl, rfl⟩ | ⟨hs, ho, rfl, rfl⟩
  · exact (wresolve_side ao n cap s w hs).mono fun e w' ⟨he, hk⟩ => ⟨none, 0, he, new_nil hk⟩
  · exact (wresolve_form ao n cap s c w h (by omega) hs ho).mono fun e w' ⟨he, hk⟩ => ⟨none, 0, he, new_nil hk⟩
  · refine (wresolve_ok ao n cap s c w h hn hs ho).mono fun e w' ⟨g, he, hN⟩ => ?_
    rw [We.RR_len, h.len]
    exact ⟨_, n, he, hN⟩
end Go.Proofs.YtmdmehopefgndaaGreatDoor

/- What Paragraph answers; what each chapter is handed of a sequence: plain mathematics. -/
namespace Go.Proofs.YtmdmehopefgndaaGreatDoor
set_option linter.unusedVariables false
namespace Rn
open Ex (lev LV TY rm Formed)
theorem pp14 : ∀ tx T, ∀ q ∈ Br.PP tx T, T.getD q.1 0 = 14 ∧ T.getD q.2 0 = 14 := by
  intro tx T q hq
  obtain ⟨_, _, h3, h4, _⟩ := Br.F_p _ (Br.mem_PS.1 hq)
  refine ⟨?_, ?_⟩
  · by_cases h : T.getD q.1 0 = 14
    · exact h
    · rw [Br.kd_not h] at h3; exact absurd h3 (by decide)
  · by_cases h : T.getD q.2 0 = 14
    · exact h
    · rw [Br.kd_not h] at h4; exact absurd h4 (by decide)
/-- The rules of chapters 9 to 11. -/
def F13 : List Int → List Int → Int → Int → Int → List Int := F12 Br.PP
theorem fine13 : Fine F13 := fine12 pp14
/-- A text's classes; the level by a base; all levels. -/
def cl (l : List Int) : List Int := l.map Ucd.cls
theorem cl_len (l : List Int) : (cl l).length = l.length := by simp [cl]
theorem cl_at (l : List Int) {i : Nat} (hi : i < l.length) : (cl l).getD i 0 = Ucd.cls (l.getD i 0) := by simp [cl, List.getD, hi]
def bl (base : Int) (l : List Int) : Int := if base = -1 then Iso.bso 0 (cl l) else base
def BB (base : Int) : Prop := -1 ≤ base ∧ base ≤ 1
theorem bl_two {base : Int} (h : BB base) (l : List Int) : bl base l = 0 ∨ bl base l = 1 := by
  unfold bl
  split
  · exact Iso.bso_two _ _
  · unfold BB at h; omega
def VS (l : List Int) (b : Int) : List Int := PVs F13 l b (cl l)
theorem VS_len (l : List Int) (b : Int) : (VS l b).length = l.length := by unfold VS; rw [PVs_len, cl_len]
/-- What Paragraph answers: a level, levels, an error. -/
def PA (l : List Int) (base : Int) (n : Int) (L : List Int) (E : Int) : Prop :=
  (¬ BB base ∧ n = 0 ∧ L = [] ∧ E = 2) ∨ (BB base ∧ 4096 < l.length ∧ n = 0 ∧ L = [] ∧ E = 3) ∨ (BB base ∧ l.length ≤ 4096 ∧ ¬ Formed (cl l) ∧ n = 0 ∧ L = [] ∧ E = 50) ∨
    (BB base ∧ l.length ≤ 4096 ∧ Formed (cl l) ∧ n = bl base l ∧ L = VS l (bl base l) ∧ E = 0)
theorem PA_some (l : List Int) (base : Int) : ∃ n L E, PA l base n L E := by
  by_cases h1 : BB base
  · by_cases h2 : l.length ≤ 4096
    · by_cases h3 : Formed (cl l)
      · exact ⟨_, _, _, .inr (.inr (.inr ⟨h1, h2, h3, rfl, rfl, rfl⟩))⟩
      · exact ⟨_, _, _, .inr (.inr (.inl ⟨h1, h2, h3, rfl, rfl, rfl⟩))⟩
    · exact ⟨_, _, _, .inr (.inl ⟨h1, by omega, rfl, rfl, rfl⟩)⟩
  · exact ⟨_, _, _, .inl ⟨h1, rfl, rfl, rfl⟩⟩
theorem PA_err {l : List Int} {base n : Int} {L : List Int} {E : Int} (h : PA l base n L E) : (E = 0 ∧ BB base ∧ l.length ≤ 4096 ∧ Formed (cl l) ∧ n = bl base l ∧ L = VS l (bl base l)) ∨ (¬ E = 0 ∧ n = 0 ∧ L = [] ∧ (E = 2 ∨ E = 3 ∨ E = 50)) := by
  rcases h with ⟨_, rfl, rfl, rfl⟩ | ⟨_, _, rfl, rfl, rfl⟩ | ⟨_, _, _, rfl, rfl, rfl⟩ | ⟨h1, h2, h3, rfl, rfl, rfl⟩
  · exact .inr ⟨by decide, rfl, rfl, .inl rfl⟩
  · exact .inr ⟨by decide, rfl, rfl, .inr (.inl rfl)⟩
  · exact .inr ⟨by decide, rfl, rfl, .inr (.inr rfl)⟩
  · exact .inl ⟨rfl, h1, h2, h3, rfl, rfl⟩
/-- What a sequence is handed with. -/
structure G (tx ty : List Int) (lv so eo : Int) : Prop where
  len : tx.length = ty.length
  ok : We.Ok ty
  lv0 : 0 ≤ lv
  lv1 : lv ≤ 125
  so : so = 1 ∨ so = 2
  eo : eo = 1 ∨ eo = 2
theorem g_of {b : Int} (hb : b = 0 ∨ b = 1) {c : List Int} (hF : Formed c) (l : List Int) {s : Sq} (hs : s ∈ SQ b c) : G (pk l s.places) (pk (TY b c) s.places) s.lvl s.sos s.eos := by
  obtain ⟨h1, h2, h3, h4, _⟩ := sq_good hb hF hs
  exact ⟨by rw [pk_len, pk_len], ok_ty hb hF hs, h1, h2, h3, h4⟩
section
variable {tx ty : List Int} {lv so eo : Int}
theorem G.b9 (h : G tx ty lv so eo) : B9 so ty (T9 ty so) 0 := .inr (.inr ⟨h.so, h.ok, rfl, rfl⟩)
theorem G.ra (h : G tx ty lv so eo) : Br.RA tx ty (T9 ty so) lv so = (0, T10 Br.PP tx ty lv so) :=
  Br.RA_ok ⟨⟨by rw [T9_len]; exact h.len, (T9_len _ _).symm⟩, ⟨h.lv0, by have := h.lv1; omega⟩, h.so⟩ (t9_all h.ok h.so)
theorem G.ar (h : G tx ty lv so eo) : Ne.AR (T10 Br.PP tx ty lv so) lv so eo (Ne.RS (T10 Br.PP tx ty lv so) lv so eo) 0 :=
  .inr (.inr ⟨⟨h.lv0, by have := h.lv1; omega, h.so, h.eo⟩, t10_ok h.ok h.so, rfl, rfl⟩)
theorem G.al (h : G tx ty lv so eo) : Ne.AL (Ne.RS (T10 Br.PP tx ty lv so) lv so eo) lv (F13 tx ty lv so eo) 0 :=
  .inr (.inr ⟨⟨h.lv0, by have := h.lv1; omega⟩, rs_sided _ _ _ _ h.so, rfl, rfl⟩)
end
theorem wf_small {x : Int} (h1 : -1000 ≤ x) (h2 : x ≤ 1000) : (Lit.int .i64 x).wf = true := WalkArith.wf_i64 (by omega)
theorem wf_ok {t : List Int} (h : Ne.Ok t) : WF t := by
  intro x hx
  obtain ⟨m, hm, rfl⟩ := List.mem_iff_getElem.1 hx
  have h1 := h m hm
  have e : t.getD m 0 = t[m] := by simp [List.getD, hm]
  rw [e] at h1
  generalize t[m] = y at *
  have h2 : -1000 ≤ y ∧ y ≤ 1000 := by
    by_cases h0 : -1000 ≤ y ∧ y ≤ 1000
    · exact h0
    · exfalso
      have e1 : Ne.sd y = 0 := by unfold Ne.sd; rw [if_neg (by omega), if_neg (by omega)]
      have e2 : Ne.neu y = false := by unfold Ne.neu; simp only [Bool.or_eq_false_iff, beq_eq_false_iff_ne]; omega
      rcases h1 with h | h
      · exact h e1
      · rw [e2] at h; cases h
  exact wf_small h2.1 h2.2
theorem wf_sided {t : List Int} (h : Ne.Sided t) : WF t := wf_ok fun i hi => .inl (h i hi)
section
variable {tx ty : List Int} {lv so eo : Int}
theorem G.wf10 (h : G tx ty lv so eo) : WF (T10 Br.PP tx ty lv so) := wf_ok (t10_ok h.ok h.so)
theorem G.wf11 (h : G tx ty lv so eo) : WF (Ne.RS (T10 Br.PP tx ty lv so) lv so eo) := wf_sided (rs_sided _ _ _ _ h.so)
end
end Rn
end Go.Proofs.YtmdmehopefgndaaGreatDoor

/- A paragraph's levels, place by place; asked for again: plain mathematics. -/
namespace Go.Proofs.YtmdmehopefgndaaGreatDoor.Rn
set_option linter.unusedVariables false
open Ex (lev LV TY rm Formed)
theorem VS_at (l : List Int) (b : Int) {i : Nat} (hi : i < l.length) : (VS l b).getD i 0 = PV F13 l b (cl l) i := PVs_at F13 l b (cl l) (by rw [cl_len]; exact hi)
theorem VS_cases {b : Int} (hb : b = 0 ∨ b = 1) {l : List Int} (hF : Formed (cl l)) {i : Nat} (hi : i < l.length) :
    (rm (Ucd.cls (l.getD i 0)) = true ∧ (VS l b).getD i 0 = -1 ∧ ¬ Ucd.cls (l.getD i 0) = 11) ∨ (Ucd.cls (l.getD i 0) = 11 ∧ (VS l b).getD i 0 = b) ∨ (rm (Ucd.cls (l.getD i 0)) = false ∧ ¬ Ucd.cls (l.getD i 0) = 11 ∧ b ≤ (VS l b).getD i 0 ∧ (VS l b).getD i 0 ≤ 126) := by
  have hc : i < (cl l).length := by rw [cl_len]; exact hi
  rw [VS_at l b hi, ← cl_at l hi]
  by_cases h11 : (cl l).getD i 0 = 11
  · exact .inr (.inl ⟨h11, PV_sep hb hF fine13 l hc h11⟩)
  · cases hr : rm ((cl l).getD i 0) with
    | true => exact .inl ⟨rfl, PV_gone hb hF F13 l (by rw [kp_rm hb hc, hr]; rfl), h11⟩
    | false =>
      have := PV_range hb hF fine13 l hc (by rw [kp_rm hb hc, hr]; rfl)
      exact .inr (.inr ⟨rfl, h11, this.1, this.2⟩)
theorem PA_again {l : List Int} {base m : Int} {L : List Int} (h : PA l base m L 0) : (m = 0 ∨ m = 1) ∧ (0 ≤ base → m = base) ∧ L.length = l.length ∧ L = VS l m ∧ Formed (cl l) ∧ PA l m m L 0 := by
  rcases PA_err h with ⟨_, h1, h2, h3, h4, h5⟩ | ⟨h0, _⟩
  · have h6 := bl_two h1 l
    rw [← h4] at h6 h5
    have h7 : bl m l = m := by unfold bl; rw [if_neg (by omega)]
    refine ⟨h6, fun hb => ?_, by rw [h5, VS_len], h5, h3, .inr (.inr (.inr ⟨⟨by omega, by omega⟩, h2, h3, h7.symm, by rw [h7]; exact h5, rfl⟩))⟩
    rw [h4]
    unfold bl
    rw [if_neg (by omega)]
  · exact absurd rfl h0
end Go.Proofs.YtmdmehopefgndaaGreatDoor.Rn

/- Places by the least level between them; stretches turned about: plain mathematics. -/
namespace Go.Proofs.YtmdmehopefgndaaGreatDoor
set_option linter.unusedVariables false
namespace Od
/-- Stretches of what p holds of are turned about. -/
def fl (p : Nat → Bool) : List Nat → List Nat → List Nat
  | acc, [] => acc
  | acc, x :: r => if p x then fl p (x :: acc) r else acc ++ x :: fl p [] r
theorem fl_perm (p : Nat → Bool) : ∀ (r acc : List Nat), (fl p acc r).Perm (acc ++ r)
  | [], acc => by rw [fl, List.append_nil]
  | x :: r, acc => by
    rw [fl]
    split
    · refine (fl_perm p r (x :: acc)).trans ?_
      rw [List.cons_append]
      exact List.perm_middle.symm
    · exact List.Perm.append_left acc (List.Perm.cons x (by simpa using fl_perm p r []))
theorem mem_fl {p : Nat → Bool} {r acc : List Nat} {z : Nat} : z ∈ fl p acc r ↔ z ∈ acc ∨ z ∈ r := by
  rw [(fl_perm p r acc).mem_iff, List.mem_append]
/-- What is known of two places of a list, one behind the other. -/
def OKs (p : Nat → Bool) (S : Nat → Nat → Prop) (Q : List Nat) : Prop :=
  ∀ l1 x m y l2, Q = l1 ++ x :: (m ++ y :: l2) → ((p x = true ∧ p y = true ∧ ∀ z ∈ m, p z = true) → S y x) ∧ (¬ (p x = true ∧ p y = true ∧ ∀ z ∈ m, p z = true) → S x y)
theorem OKs.tail {p : Nat → Bool} {S : Nat → Nat → Prop} {l Q : List Nat} (h : OKs p S (l ++ Q)) : OKs p S Q := by
  intro l1 x m y l2 e
  exact h (l ++ l1) x m y l2 (by rw [e, List.append_assoc])
theorem OKs.head {p : Nat → Bool} {S : Nat → Nat → Prop} {l Q : List Nat} (h : OKs p S (Q ++ l)) : OKs p S Q := by
  intro l1 x m y l2 e
  exact h l1 x m y (l2 ++ l) (by rw [e]; simp)
theorem acc_sorted {p : Nat → Bool} {S : Nat → Nat → Prop} : ∀ (acc : List Nat), (∀ x ∈ acc, p x = true) → OKs p S acc.reverse → acc.Pairwise S
  | [], _, _ => List.Pairwise.nil
  | x :: acc, hp, h => by
    rw [List.reverse_cons] at h
    refine List.pairwise_cons.2 ⟨fun y hy => ?_, acc_sorted acc (fun z hz => hp z (List.mem_cons_of_mem _ hz)) h.head⟩
    obtain ⟨l1, l2, e⟩ := List.append_of_mem (List.mem_reverse.2 hy)
    refine (h l1 y l2 x [] (by rw [e]; simp)).1 ⟨hp y (List.mem_cons_of_mem _ hy), hp x List.mem_cons_self, fun z hz => hp z (List.mem_cons_of_mem _ (List.mem_reverse.1 (by rw [e]; simp [hz])))⟩
theorem fl_sorted {p : Nat → Bool} {S : Nat → Nat → Prop} : ∀ (r acc : List Nat), (∀ x ∈ acc, p x = true) → OKs p S (acc.reverse ++ r) → (fl p acc r).Pairwise S
  | [], acc, hp, h => by
    rw [fl]
    exact acc_sorted acc hp (by simpa using h)
  | x :: r, acc, hp, h => by
    rw [fl]
    by_cases hx : p x = true
    · rw [if_pos hx]
      refine fl_sorted r (x :: acc) (fun z hz => ?_) (by rw [List.reverse_cons, List.append_assoc]; exact h)
      rcases List.mem_cons.1 hz with rfl | hz
      · exact hx
      · exact hp z hz
    · rw [if_neg hx]
      have hr : OKs p S r := OKs.tail (l := acc.reverse ++ [x]) (by rw [List.append_assoc]; exact h)
      refine List.pairwise_append.2 ⟨acc_sorted acc hp h.head, List.pairwise_cons.2 ⟨fun y hy => ?_, fl_sorted r [] (by simp) (by simpa using hr)⟩, fun u hu v hv => ?_⟩
      · have hy2 : y ∈ r := (mem_fl.1 hy).resolve_left (by simp)
        obtain ⟨m, l2, e⟩ := List.append_of_mem hy2
        exact (h acc.reverse x m y l2 (by rw [e])).2 (fun q => hx q.1)
      · obtain ⟨l1, l2, e⟩ := List.append_of_mem (List.mem_reverse.2 hu)
        rcases List.mem_cons.1 hv with rfl | hv
        · exact (h l1 u l2 v r (by rw [e]; simp)).2 (fun q => hx q.2.1)
        · have hv2 : v ∈ r := (mem_fl.1 hv).resolve_left (by simp)
          obtain ⟨m, l3, e3⟩ := List.append_of_mem hv2
          exact (h l1 u (l2 ++ x :: m) v l3 (by rw [e, e3]; simp)).2 (fun q => hx (q.2.2 x (by simp)))
section
variable (lv : List Int)
def at' (i : Nat) : Int := lv.getD i 0
/-- A place that is seen. -/
def sn (i : Nat) : Bool := decide (i < lv.length ∧ 0 ≤ lv.getD i 0)
/-- The least level from i on, d places onward (i is seen). -/
def ls (i : Nat) : Nat → Int
  | 0 => lv.getD i 0
  | d + 1 => if 0 ≤ lv.getD (i + (d + 1)) 0 ∧ lv.getD (i + (d + 1)) 0 < ls i d then lv.getD (i + (d + 1)) 0 else ls i d
/-- The least level between two places. -/
def le (x y : Nat) : Int := if x ≤ y then ls lv x (y - x) else ls lv y (x - y)
end
variable {lv : List Int}
theorem ls_le (i : Nat) : ∀ d z, i ≤ z → z ≤ i + d → 0 ≤ lv.getD z 0 ∨ z = i → ls lv i d ≤ lv.getD z 0 := by
  intro d
  induction d with
  | zero =>
    intro z h1 h2 _
    obtain rfl : z = i := by omega
    exact Int.le_refl _
  | succ d ih =>
    intro z h1 h2 h3
    rw [ls]
    by_cases hz : z = i + (d + 1)
    · subst hz
      split
      · exact Int.le_refl _
      · rename_i hn
        rcases h3 with h3 | h3
        · omega
        · omega
    · have := ih z h1 (by omega) h3
      split
      · omega
      · exact this
theorem ls_ge {i : Nat} {k : Int} : ∀ d, (∀ z, i ≤ z → z ≤ i + d → (0 ≤ lv.getD z 0 ∨ z = i) → k ≤ lv.getD z 0) → k ≤ ls lv i d := by
  intro d
  induction d with
  | zero => intro h; exact h i (Nat.le_refl _) (Nat.le_refl _) (.inr rfl)
  | succ d ih =>
    intro h
    rw [ls]
    split
    · rename_i hc
      exact h _ (by omega) (by omega) (.inl hc.1)
    · exact ih fun z h1 h2 h3 => h z h1 (by omega) h3
theorem le_comm (x y : Nat) : le lv x y = le lv y x := by
  unfold le
  by_cases h : x ≤ y
  · by_cases h2 : y ≤ x
    · obtain rfl : x = y := by omega
      rfl
    · rw [if_pos h, if_neg h2]
  · rw [if_neg h, if_pos (by omega)]
/-- It is at most the level of what is seen between. -/
theorem le_le {x y z : Nat} (hx : 0 ≤ lv.getD x 0) (hy : 0 ≤ lv.getD y 0) (hz : 0 ≤ lv.getD z 0) (h : (x ≤ z ∧ z ≤ y) ∨ (y ≤ z ∧ z ≤ x)) : le lv x y ≤ lv.getD z 0 := by
  unfold le
  split
  · exact ls_le x _ z (by omega) (by omega) (.inl hz)
  · exact ls_le y _ z (by omega) (by omega) (.inl hz)
/-- A level that all between have, it has. -/
theorem le_ge {x y : Nat} {k : Int} (hx : 0 ≤ lv.getD x 0) (hy : 0 ≤ lv.getD y 0) (h : ∀ z, ((x ≤ z ∧ z ≤ y) ∨ (y ≤ z ∧ z ≤ x)) → 0 ≤ lv.getD z 0 → k ≤ lv.getD z 0) : k ≤ le lv x y := by
  unfold le
  split
  · refine ls_ge _ fun z h1 h2 h3 => h z (by omega) ?_
    rcases h3 with h3 | rfl
    · exact h3
    · exact hx
  · refine ls_ge _ fun z h1 h2 h3 => h z (by omega) ?_
    rcases h3 with h3 | rfl
    · exact h3
    · exact hy
/-- Further left, where the stretches of all levels above k have been turned about. -/
def Bf (lv : List Int) (k : Int) (x y : Nat) : Prop := if (le lv x y - k).toNat % 2 = 0 then x < y else y < x
theorem Bf_low {k : Int} {x y : Nat} (h : le lv x y ≤ k) : Bf lv k x y ↔ x < y := by
  unfold Bf
  rw [show (le lv x y - k).toNat = 0 by omega]
  simp
theorem Bf_turn {k : Int} {x y : Nat} (h : k ≤ le lv x y) : Bf lv (k - 1) x y ↔ Bf lv k y x := by
  unfold Bf
  rw [le_comm y x]
  have e : (le lv x y - (k - 1)).toNat = (le lv x y - k).toNat + 1 := by omega
  rw [e]
  generalize (le lv x y - k).toNat = c
  by_cases h0 : c % 2 = 0
  · rw [if_pos h0, if_neg (show ¬ (c + 1) % 2 = 0 by omega)]
  · rw [if_neg h0, if_pos (show (c + 1) % 2 = 0 by omega)]
theorem Bf_asymm {k : Int} {x y : Nat} (h : Bf lv k x y) : ¬ Bf lv k y x := by
  unfold Bf at *
  rw [le_comm y x]
  split at h
  · rename_i h0; rw [if_pos h0]; omega
  · rename_i h0; rw [if_neg h0]; omega
/-- A list of all places that are seen, one behind the other by Bf k. -/
structure By (lv : List Int) (k : Int) (P : List Nat) : Prop where
  pw : P.Pairwise (Bf lv k)
  mem : ∀ z, z ∈ P ↔ sn lv z = true
theorem sn_at {z : Nat} (h : sn lv z = true) : z < lv.length ∧ 0 ≤ lv.getD z 0 := of_decide_eq_true h
theorem sn_of {z : Nat} (h : 0 ≤ lv.getD z 0) (hl : z < lv.length) : sn lv z = true := decide_eq_true ⟨hl, h⟩
theorem By.oks {k : Int} {P : List Nat} (h : By lv k P) : OKs (fun x => decide (k ≤ lv.getD x 0)) (Bf lv (k - 1)) P := by
  intro l1 x m y l2 e
  have hmx := sn_at ((h.mem x).1 (by rw [e]; simp))
  have hmy := sn_at ((h.mem y).1 (by rw [e]; simp))
  have hpw := h.pw
  rw [e] at hpw
  obtain ⟨_, hx2, h1⟩ := List.pairwise_append.1 hpw
  obtain ⟨hx3, hm2⟩ := List.pairwise_cons.1 hx2
  obtain ⟨_, hy2, h2⟩ := List.pairwise_append.1 hm2
  obtain ⟨hy3, _⟩ := List.pairwise_cons.1 hy2
  have hxy : Bf lv k x y := hx3 y (by simp)
  have key : (decide (k ≤ lv.getD x 0) = true ∧ decide (k ≤ lv.getD y 0) = true ∧ ∀ z ∈ m, decide (k ≤ lv.getD z 0) = true) ↔ k ≤ le lv x y := by
    constructor
    · rintro ⟨px, py, pm⟩
      simp only [decide_eq_true_eq] at px py pm
      refine le_ge hmx.2 hmy.2 fun w hw hw0 => ?_
      by_cases hk : k ≤ lv.getD w 0
      · exact hk
      exfalso
      have hwl : w < lv.length := by omega
      have hwP : w ∈ P := (h.mem w).2 (sn_of hw0 hwl)
      have hwx : le lv w x ≤ k := by have := le_le (x := w) (y := x) (z := w) hw0 hmx.2 hw0 (by omega); omega
      have hwy : le lv w y ≤ k := by have := le_le (x := w) (y := y) (z := w) hw0 hmy.2 hw0 (by omega); omega
      have hne1 : ¬ w = x := by rintro rfl; omega
      have hne2 : ¬ w = y := by rintro rfl; omega
      rw [e] at hwP
      rcases List.mem_append.1 hwP with hw1 | hw1
      · have q1 := (Bf_low hwx).1 (h1 w hw1 x (by simp))
        have q2 := (Bf_low hwy).1 (h1 w hw1 y (by simp))
        omega
      · rcases List.mem_cons.1 hw1 with hw1 | hw1
        · exact hne1 hw1
        · rcases List.mem_append.1 hw1 with hw1 | hw1
          · exact hk (pm w hw1)
          · rcases List.mem_cons.1 hw1 with hw1 | hw1
            · exact hne2 hw1
            · have q1 := (Bf_low (by rw [le_comm]; exact hwx)).1 (hx3 w (by simp [hw1]))
              have q2 := (Bf_low (by rw [le_comm]; exact hwy)).1 (hy3 w hw1)
              omega
    · intro hk
      have px : k ≤ lv.getD x 0 := by have := le_le (x := x) (y := y) (z := x) hmx.2 hmy.2 hmx.2 (by omega); omega
      have py : k ≤ lv.getD y 0 := by have := le_le (x := x) (y := y) (z := y) hmx.2 hmy.2 hmy.2 (by omega); omega
      refine ⟨decide_eq_true px, decide_eq_true py, fun z hz => ?_⟩
      by_cases hzk : k ≤ lv.getD z 0
      · exact decide_eq_true hzk
      exfalso
      have hmz := sn_at ((h.mem z).1 (by rw [e]; simp [hz]))
      have hxz : le lv x z ≤ k := by have := le_le (x := x) (y := z) (z := z) hmx.2 hmz.2 hmz.2 (by omega); omega
      have hzy : le lv z y ≤ k := by have := le_le (x := z) (y := y) (z := z) hmz.2 hmy.2 hmz.2 (by omega); omega
      have q1 := (Bf_low hxz).1 (hx3 z (by simp [hz]))
      have q2 := (Bf_low hzy).1 (h2 z hz y (by simp))
      have := le_le (x := x) (y := y) (z := z) hmx.2 hmy.2 hmz.2 (by omega)
      omega
  rw [key]
  refine ⟨fun hk => ?_, fun hk => ?_⟩
  · rw [Bf_turn (by rw [le_comm]; exact hk)]
    exact hxy
  · rw [Bf_low (by omega)]
    exact (Bf_low (by omega)).1 hxy
/-- A turn. -/
def turn (lv : List Int) (k : Int) (P : List Nat) : List Nat := fl (fun x => decide (k ≤ lv.getD x 0)) [] P
theorem By.turn {k : Int} {P : List Nat} (h : By lv k P) : By lv (k - 1) (turn lv k P) :=
  ⟨fl_sorted P [] (by simp) (by simpa using h.oks), fun z => by unfold Od.turn; rw [mem_fl, ← h.mem]; simp⟩
/-- All that are seen. -/
def K (lv : List Int) : List Nat := (List.range lv.length).filter (sn lv)
theorem K_by {k : Int} (hk : ∀ i, i < lv.length → lv.getD i 0 ≤ k) : By lv k (K lv) := by
  refine ⟨?_, fun z => ?_⟩
  · have h1 : (List.range lv.length).Pairwise (· < ·) := List.pairwise_lt_range
    have h2 : (K lv).Pairwise (· < ·) := h1.filter _
    refine h2.imp_of_mem ?_
    intro x y hx hy hxy
    have mx := sn_at (List.mem_filter.1 hx).2
    have my := sn_at (List.mem_filter.1 hy).2
    rw [Bf_low]
    · exact hxy
    · have := le_le (x := x) (y := y) (z := x) mx.2 my.2 mx.2 (by omega)
      have := hk x mx.1
      omega
  · unfold K
    rw [List.mem_filter, List.mem_range]
    exact ⟨fun h => h.2, fun h => ⟨(sn_at h).1, h⟩⟩
/-- From a level down: m turns. -/
def down (lv : List Int) (k : Int) : Nat → List Nat
  | 0 => K lv
  | m + 1 => turn lv (k - (m : Int)) (down lv k m)
theorem down_by {k : Int} (hk : ∀ i, i < lv.length → lv.getD i 0 ≤ k) : ∀ m : Nat, By lv (k - (m : Int)) (down lv k m)
  | 0 => by simpa [down] using K_by hk
  | m + 1 => by
    have := (down_by hk m).turn
    rw [show k - (m : Int) - 1 = k - ((m + 1 : Nat) : Int) by omega] at this
    exact this
theorem down_perm (k : Int) : ∀ m : Nat, (down lv k m).Perm (K lv)
  | 0 => List.Perm.refl _
  | m + 1 => (fl_perm _ _ _).trans (by simpa using down_perm k m)
/-- The document's left. -/
def Lf (lv : List Int) (x y : Nat) : Prop := if le lv x y % 2 = 0 then x < y else y < x
theorem Lf_asymm {x y : Nat} (h : Lf lv x y) : ¬ Lf lv y x := by
  unfold Lf at *
  rw [le_comm y x]
  split at h
  · rename_i h0; rw [if_pos h0]; omega
  · rename_i h0; rw [if_neg h0]; omega
/-- Turned down to an odd level below which there is none. -/
theorem Bf_Lf {k : Int} {x y : Nat} (hk : k % 2 = 0) (h0 : 0 ≤ le lv x y) (h : le lv x y ≤ k → le lv x y % 2 = 0) : Bf lv k x y ↔ Lf lv x y := by
  unfold Bf Lf
  by_cases hle : le lv x y ≤ k
  · rw [show (le lv x y - k).toNat = 0 by omega, if_pos (h hle)]
    simp
  · have e : ((le lv x y - k).toNat % 2 = 0) ↔ le lv x y % 2 = 0 := by omega
    by_cases hp : le lv x y % 2 = 0
    · rw [if_pos hp, if_pos (e.2 hp)]
    · rw [if_neg hp, if_neg (fun q => hp (e.1 q))]
/-- It is some seen place's level. -/
theorem ls_is (i : Nat) (hi : 0 ≤ lv.getD i 0) : ∀ d, ∃ z, i ≤ z ∧ z ≤ i + d ∧ 0 ≤ lv.getD z 0 ∧ ls lv i d = lv.getD z 0
  | 0 => ⟨i, Nat.le_refl _, Nat.le_refl _, hi, rfl⟩
  | d + 1 => by
    rw [ls]
    split
    · rename_i hc
      exact ⟨_, by omega, by omega, hc.1, rfl⟩
    · obtain ⟨z, h1, h2, h3, h4⟩ := ls_is i hi d
      exact ⟨z, h1, by omega, h3, h4⟩
theorem le_is {x y : Nat} (hx : 0 ≤ lv.getD x 0) (hy : 0 ≤ lv.getD y 0) : ∃ z, ((x ≤ z ∧ z ≤ y) ∨ (y ≤ z ∧ z ≤ x)) ∧ 0 ≤ lv.getD z 0 ∧ le lv x y = lv.getD z 0 := by
  unfold le
  split
  · obtain ⟨z, h1, h2, h3, h4⟩ := ls_is x hx (y - x)
    exact ⟨z, by omega, h3, h4⟩
  · obtain ⟨z, h1, h2, h3, h4⟩ := ls_is y hy (x - y)
    exact ⟨z, by omega, h3, h4⟩
end Od
end Go.Proofs.YtmdmehopefgndaaGreatDoor
