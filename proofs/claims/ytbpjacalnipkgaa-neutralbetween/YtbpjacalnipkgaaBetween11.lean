/- NeutralBetween: neutral types between two that have a side. -/
import Derived.Test.YtbpjacalnipkgaaTurned11
import Derived.Test.YtbpjacalnipkgaaKeeps11
namespace Go.Proofs.Ytbpjacalnipkgaa
open Go.RowKit
set_option linter.unusedVariables false
set_option maxHeartbeats 1000000
set_option maxRecDepth 100000
namespace Ne
def nt (j : Nat) : Int := [13, 14, 23, 12].getD j 0
def st (j : Nat) : Int := [1, 2, 4, 7].getD j 0
def TK (x : Int) (k : Nat) : List Int := x :: (List.range k).map fun i => nt (i % 4)
def TT (x y : Int) (k : Nat) : List Int := TK x k ++ [y]
theorem TK_len (x : Int) (k : Nat) : (TK x k).length = k + 1 := by simp [TK]
theorem TK_succ (x : Int) (k : Nat) : TK x (k + 1) = TK x k ++ [nt (k % 4)] := by simp [TK, List.range_succ]
theorem TT_len (x y : Int) (k : Nat) : (TT x y k).length = k + 2 := by simp [TT, TK_len]
theorem TT_zero (x y : Int) (k : Nat) : (TT x y k).getD 0 0 = x := rfl
theorem TT_mid (x y : Int) (k : Nat) {j : Nat} (h0 : 0 < j) (h1 : j ≤ k) : (TT x y k).getD j 0 = nt ((j - 1) % 4) := by
  obtain ⟨i, rfl⟩ : ∃ i, j = i + 1 := ⟨j - 1, by omega⟩
  unfold TT
  rw [List.getD, List.getElem?_append_left (by rw [TK_len]; omega)]
  simp [TK, show i < k by omega]
theorem TT_last (x y : Int) (k : Nat) : (TT x y k).getD (k + 1) 0 = y := by
  unfold TT
  rw [List.getD, List.getElem?_append_right (by rw [TK_len]; exact Nat.le_refl _), TK_len]
  simp
theorem four {p : Nat → Prop} (h0 : p 0) (h1 : p 1) (h2 : p 2) (h3 : p 3) {j : Nat} (hj : j < 4) : p j := by
  match j, hj with
  | 0, _ => exact h0
  | 1, _ => exact h1
  | 2, _ => exact h2
  | 3, _ => exact h3
theorem nt_four {j : Nat} (hj : j < 4) : sd (nt j) = 0 ∧ May (nt j) ∧ (Lit.int .i64 (nt j)).wf = true := four (p := fun j => sd (nt j) = 0 ∧ May (nt j) ∧ (Lit.int .i64 (nt j)).wf = true) (by decide) (by decide) (by decide) (by decide) hj
theorem st_four {j : Nat} (hj : j < 4) : sd (st j) ≠ 0 ∧ (Lit.int .i64 (st j)).wf = true := four (p := fun j => sd (st j) ≠ 0 ∧ (Lit.int .i64 (st j)).wf = true) (by decide) (by decide) (by decide) (by decide) hj
theorem TT_mem {p : Int → Prop} {x y : Int} {k : Nat} (hx : p x) (hy : p y) (hn : ∀ j, j < 4 → p (nt j)) : ∀ z ∈ TT x y k, p z := by
  intro z hz
  unfold TT TK at hz
  rcases List.mem_append.1 hz with h | h
  · rcases List.mem_cons.1 h with rfl | h
    · exact hx
    · obtain ⟨i, _, rfl⟩ := List.mem_map.1 h
      exact hn _ (Nat.mod_lt _ (by decide))
  · rw [List.mem_singleton.1 h]; exact hy
end Ne
theorem RG.snoc2 {w : World} {zs ys : List Int} {k : Nat} {x : Int} {v2 : Value} {X w2 : World} (hw : Below w.heap.size w X) (hb : Below w.heap.size X w2) (ho : w2.ownsRow w.heap.size 3 1 v2 (k + 1) (zs.map (Value.int .i64) ++ [x].map (Value.int .i64))) (hy : ys = zs ++ [x]) : RG w ys (k + 1) v2 w2 :=
  ⟨by rw [hy, List.map_append]; exact ho, Below.trans hw hb⟩
theorem four_cells (w : World) (l : List Int) (hl : l.length = 4) {j : Nat} (hj : j < 4) : (w.alloc (.cells (l.map (Value.int .i64)).toArray 3)).cell? ⟨w.heap.size, j, none⟩ = some (.int .i64 (l.getD j 0)) := by
  obtain ⟨b, off, e, _, hc⟩ := (row_lit .i64 w l 3 (by rw [hl]; decide)).cells (by omega)
  simp only [Option.some.injEq, Addr.mk.injEq, and_true] at e
  obtain ⟨rfl, rfl⟩ := e
  have := hc j (by omega)
  rwa [Nat.zero_add] at this
theorem NeutralBetween_walk (w : World) (nn : Int) (hwn : (Lit.int .i64 nn).wf = true) (le : Int) (hwl : (Lit.int .i64 le).wf = true) (ri : Int) (hwr : (Lit.int .i64 ri).wf = true) (lev : Int) (hwv : (Lit.int .i64 lev).wf = true) :
    Calls Try.prog 7 #[.int .i64 nn, .int .i64 le, .int .i64 ri, .int .i64 lev] w fun e w' => e = .returned (.bool true) ∧ Below w.heap.size w w' := by
  obtain ⟨ii, hii, hy0, hy1, hy2⟩ := info_parts infoInt
  have HII : Hid (Try.prog.info? 3 = some ii) := hii
  have HY0 := hide hy0
  have HY1 := hide hy1
  have HY2 := hide hy2
  have HW := hide (works11_any w)
  obtain ⟨ka, hka, ea'⟩ := place_at le 4 (by decide) (by decide)
  obtain ⟨kb, hkb, eb'⟩ := place_at ri 4 (by decide) (by decide)
  obtain ⟨k0, hkl, el'⟩ := place_at lev 127 (by decide) (by decide)
  obtain ⟨m, hm, em'⟩ := place_at nn 50 (by decide) (by decide)
  have ea : wrap64 ((IntKind.u64.wrap le).tmod 4) = (ka : Int) := ea'
  clear ea'
  have eb : wrap64 ((IntKind.u64.wrap ri).tmod 4) = (kb : Int) := eb'
  clear eb'
  have el : wrap64 ((IntKind.u64.wrap lev).tmod 127) = (k0 : Int) := el'
  clear el'
  have em : wrap64 ((IntKind.u64.wrap nn).tmod 50) = (m : Int) := em'
  clear em'
  have ia : (ka : Int) < 4 := by omega
  have ib : (kb : Int) < 4 := by omega
  obtain ⟨hx, hxw⟩ := Ne.st_four hka
  obtain ⟨hy, hyw⟩ := Ne.st_four hkb
  have HF := hide (fun w' => four_cells w' [1, 2, 4, 7] rfl hka)
  have HG := hide (fun w' => four_cells w' [1, 2, 4, 7] rfl hkb)
  obtain ⟨x, ex⟩ : ∃ x, Ne.st ka = x := ⟨_, rfl⟩
  obtain ⟨y, ey⟩ : ∃ y, Ne.st kb = y := ⟨_, rfl⟩
  have HF : Hid (∀ w' : World, (w'.alloc (.cells #[.int .i64 1, .int .i64 2, .int .i64 4, .int .i64 7] 3)).cell? ⟨w'.heap.size, ka, none⟩ = some (.int .i64 x)) := hide (fun w' => by rw [← ex]; exact HF.out w')
  have HG : Hid (∀ w' : World, (w'.alloc (.cells #[.int .i64 1, .int .i64 2, .int .i64 4, .int .i64 7] 3)).cell? ⟨w'.heap.size, kb, none⟩ = some (.int .i64 y)) := hide (fun w' => by rw [← ey]; exact HG.out w')
  rw [ex] at hx hxw
  rw [ey] at hy hyw
  have HX := hide hx
  have HY := hide hy
  have HXW := hide hxw
  have HYW := hide hyw
  have HKL := hide hkl
  have HM := hide hm
  have HSI := hide (fun x w' => lside_any x w')
  clear hx hy hxw hyw ex ey hwn hwl hwr hwv hii hy0 hy1 hy2 hkl hka hkb
  go_enter Try.func7, Try.ntmps7
  go_wp2_with fail
  refine HW.out.mono ?_
  rintro e w1 ⟨rfl, hk1⟩
  have cf := HF.out w1
  have cg := HG.out w1
  have K1 := hide (KO.alloc hk1 (.cells #[.int .i64 1, .int .i64 2, .int .i64 4, .int .i64 7] 3))
  clear hk1 HW HF HG
  go_wp2_with fail
  go_quiet (fail)
  obtain ⟨W2, hW2⟩ : ∃ W2, (w1.alloc (.cells #[.int .i64 1, .int .i64 2, .int .i64 4, .int .i64 7] 3)).drewN nq = W2 := ⟨_, rfl⟩
  have K2 := hide (show KO w W2 from by rw [← hW2]; exact KO.on K1.out (below_drewN _ _))
  clear cf cg K1
  go_wp2_with fail
  rw [em, el]
  have H0 := hide (show RG W2 (Ne.TK x 0) 1 (.slice (some ⟨W2.heap.size, 0, none⟩) 1 1) (W2.alloc (.cells #[.int .i64 x] 3)) from ⟨owns_block (cur := #[.int .i64 x]) (zs := [x]) (World.alloc_heap_new W2 _) rfl rfl (by decide) (Nat.le_refl _), (Below.refl _ _).alloc (Nat.le_refl _) _⟩)
  clear hW2 em el ea eb ia ib
  go_loopw [12, 13] (fun v12 v13 wr => ∃ k : Nat, k ≤ m ∧ v13 = .int .i64 (k : Int) ∧ Hid (RG W2 (Ne.TK x k) (k + 1) v12 wr)) (fun _ v13 _ => m - (intOf v13).toNat)
  case atStart => exact ⟨0, by omega, rfl, H0⟩
  case round =>
    obtain ⟨k, hk, rfl, gm⟩ := hrel
    have hm50 := HM.out
    by_cases hlt : k < m
    · have hin : (k : Int) < (m : Int) := by omega
      obtain ⟨j, hj⟩ : ∃ j, k % 4 = j := ⟨_, rfl⟩
      have hj4 : j < 4 := by omega
      have ht : (k : Int).tmod 4 = (j : Int) := by
        rw [Int.tmod_eq_emod_of_nonneg (by omega)]; omega
      have hji : (j : Int) < 4 := by omega
      have HC := hide (show (wr.alloc (.cells #[.int .i64 13, .int .i64 14, .int .i64 23, .int .i64 12] 3)).cell? ⟨wr.heap.size, j, none⟩ = some (.int .i64 (Ne.nt j)) from four_cells wr [13, 14, 23, 12] rfl hj4)
      have hts := Ne.TK_succ x k
      rw [hj] at hts
      have HSN := hide (fun (v2 : Value) (X w2 : World) => RG.snoc2 (w := W2) (zs := Ne.TK x k) (ys := Ne.TK x (k + 1)) (k := k + 1) (x := Ne.nt j) (v2 := v2) (X := X) (w2 := w2) (hy := hts))
      have HOW := hide gm.out.own
      have HB := hide gm.out.bel
      have hsz := gm.out.bel.size
      clear hts gm hj
      generalize Ne.nt j = z at *
      obtain ⟨X, hX⟩ : ∃ X, wr.alloc (.cells #[.int .i64 13, .int .i64 14, .int .i64 23, .int .i64 12] 3) = X := ⟨_, rfl⟩
      have hc := HC.out
      rw [hX] at hc
      have hXs : X.heap.size = wr.heap.size + 1 := by rw [← hX]; simp
      have HOX := hide (show X.ownsRow W2.heap.size 3 1 _ (k + 1) _ from by rw [← hX]; exact HOW.out.alloc _)
      have HBX := hide (show Below W2.heap.size W2 X from by rw [← hX]; exact Below.alloc HB.out hsz _)
      clear HC HOW HB
      go_wp2_with (at_builtin; refine wpList_append_row _ rfl (.tmp 52) (.tmp 58) 22 rfl W2.heap.size 3 ii (.int .i64 0) 8 Try.underlying22 HII.out HY0.out HY1.out HY2.out rfl _ (k + 1) _ rfl (HOX.out.alloc _) .i64 _ 1 1 [z] rfl (row_one X (wr.heap.size + 1) hXs z) (by omega) (by omega) (by simp; omega) ?_; intro v2 w2 hown2 hb2)
      have HMM := hide (HSN.out v2 _ w2 (Below.alloc HBX.out HBX.out.size _) hb2 hown2)
      clear hown2 hb2 HSN HOX
      go_roundw
      case rel => exact ⟨k + 1, by omega, by go_num, HMM⟩
      case measure => simp [intOf]; omega
    · obtain rfl : k = m := by omega
      have hne : ¬ ((k : Int) < (k : Int)) := by omega
      have HOW := hide gm.out.own
      have HB := hide gm.out.bel
      have hsz := gm.out.bel.size
      clear gm hlt
      go_wp2_with (at_builtin; refine wpList_append_row _ rfl (.tmp 60) (.tmp 62) 22 rfl W2.heap.size 3 ii (.int .i64 0) 8 Try.underlying22 HII.out HY0.out HY1.out HY2.out rfl _ (k + 1) _ rfl (HOW.out.alloc _) .i64 _ 1 1 [y] rfl (row_one _ wr.heap.size rfl y) (by omega) (by omega) (by simp; omega) ?_; intro v2 w2 hown2 hb2)
      have HMM := hide (RG.snoc2 (w := W2) (zs := Ne.TK x k) (ys := Ne.TT x y k) (k := k + 1) (x := y) (v2 := v2) (w2 := w2) (Below.alloc HB.out hsz _) hb2 hown2 rfl)
      clear hown2 hb2 HOW HB hsz
      have hes : 1 + (k0 : Int) % 2 = Ne.es (k0 : Int) := by
        unfold Ne.es
        by_cases h : (k0 : Int) % 2 = 1
        · rw [if_pos h]; omega
        · rw [if_neg h]; omega
      rw [hes]
      obtain ⟨N, hN⟩ : ∃ N, k + 1 + 1 = N := ⟨_, rfl⟩
      have hNN : N ≤ 60 := by omega
      have eN : wrap64 ((k : Int) + 2) = (N : Int) := by rw [w64_small (by omega) (by omega)]; omega
      obtain ⟨aT, cT, rfl, hrT⟩ := row_of_owns HMM.out.own
      have K3 := hide (KO.on K2.out HMM.out.bel)
      have hbt := Ne.between (Ne.TT x y k) (k0 : Int)
      have HV := hide (fun (so eo : Int) (i : Nat) (h0 : 0 < i) (h1 : i ≤ k) => (show (Ne.RS (Ne.TT x y k) (k0 : Int) so eo).getD i 0 = if Ne.sd x = Ne.sd y then Ne.sd x else Ne.es (k0 : Int) from
        hbt so eo _ _ k (Ne.TT_len x y k) (by rw [Ne.TT_zero]) HX.out (by rw [Ne.TT_last]) HY.out (fun j a b => by rw [Ne.TT_mid x y k a b]; exact (Ne.nt_four (Nat.mod_lt _ (by decide))).1) h0 h1))
      rw [hN] at hrT
      have HRS := hide (fun (w' : World) (hk : KO w2 w') (so eo : Int) (h1 : so = 1 ∨ so = 2) (h2 : eo = 1 ∨ eo = 2) => resolve_ok aT N cT (k0 : Int) so eo (Ne.TT x y k) w' (hrT.below hk) (Ne.TT_mem (p := fun z => (Lit.int .i64 z).wf = true) HXW.out HYW.out (fun j hj => (Ne.nt_four hj).2.2)) (by omega) ⟨by omega, by have := HKL.out; omega, h1, h2⟩ (Ne.ok_all (Ne.TT_mem (p := Ne.May) (.inl HX.out) (.inl HY.out) (fun j hj => (Ne.nt_four hj).2.1))))
      have HLN := hide (fun so eo => (show (Ne.RS (Ne.TT x y k) (k0 : Int) so eo).length = N from by rw [Ne.RS_len, Ne.TT_len]; exact hN))
      have HNK := hide hN
      have HSX := hide (fun w' => HSI.out x w')
      have HSY := hide (fun w' => HSI.out y w')
      rw [hN]
      clear hrT hN HMM hbt HX HY HXW HYW HKL HII HY0 HY1 HY2 HSI hes K2 hm50 hm HM hk H0
      generalize Ne.es (k0 : Int) = z at *
      generalize Ne.sd x = P at *
      generalize Ne.sd y = Q at *
      have hPQ : (P = Q ∧ (P == Q) = true) ∨ (¬ P = Q ∧ (P == Q) = false) := by
        by_cases h : P = Q
        · exact .inl ⟨h, beq_iff_eq.2 h⟩
        · exact .inr ⟨h, beq_false_of_ne h⟩
      rcases hPQ with ⟨h, e⟩ | ⟨h, e⟩
      · rw [if_pos h] at HV
        clear h
        go_wp2_with fail
        refine (HSX.out _).mono ?_
        rintro e w' ⟨rfl, rfl⟩
        go_wp2_with fail
        refine (HSY.out _).mono ?_
        rintro e w' ⟨rfl, rfl⟩
        go_wp2_with fail
        refine (HSX.out _).mono ?_
        rintro e w' ⟨rfl, rfl⟩
        clear HSX HSY
        generalize P = V at *
        go_wp2
        go_loopw [15] (fun v15 wr => ∃ so : Nat, v15 = .int .i64 (so : Int) ∧ 1 ≤ so ∧ so ≤ 3 ∧ Hid (KO w2 wr)) (fun v15 _ => 3 - (intOf v15).toNat)
        case atStart => exact ⟨1, rfl, by omega, by omega, hide (KO.refl _)⟩
        case round =>
          obtain ⟨so, rfl, hso1, hso3, hkso⟩ := hrel
          by_cases hso : so ≤ 2
          · have iso : (so : Int) ≤ 2 := by omega
            have HSO := hide (show (so : Int) = 1 ∨ (so : Int) = 2 from by omega)
            go_wp2
            go_loopw [16] (fun v16 wr => ∃ eo : Nat, v16 = .int .i64 (eo : Int) ∧ 1 ≤ eo ∧ eo ≤ 3 ∧ Hid (KO w2 wr)) (fun v16 _ => 3 - (intOf v16).toNat)
            case atStart => exact ⟨1, rfl, by omega, by omega, hkso⟩
            case round =>
              obtain ⟨eo, rfl, heo1, heo3, hkeo⟩ := hrel
              by_cases heo : eo ≤ 2
              · have ieo : (eo : Int) ≤ 2 := by omega
                have HEO := hide (show (eo : Int) = 1 ∨ (eo : Int) = 2 from by omega)
                have HC := hide (HRS.out _ hkeo.out (so : Int) (eo : Int) HSO.out HEO.out)
                go_wp2_with fail
                refine HC.out.mono ?_
                rintro e w4 ⟨g4, rfl, hr4, hk4⟩
                have K4 := hide (KO.on hkeo.out hk4)
                have N4 := hide hr4
                clear hr4 hk4 HC
                go_wp2
                go_loopw [19] (fun v19 wr => ∃ i : Nat, v19 = .int .i64 (i : Int) ∧ 1 ≤ i ∧ i ≤ k + 1 ∧ w4 = wr) (fun v19 _ => k + 1 - (intOf v19).toNat)
                case atStart => exact ⟨1, rfl, by omega, by omega, rfl⟩
                case round =>
                  obtain ⟨i, rfl, hi1, hi2, rfl⟩ := hrel
                  by_cases hi : i ≤ k
                  · have iik : (i : Int) ≤ (k : Int) := by omega
                    have iin : (i : Int) < (N : Int) := by have := HNK.out; omega
                    have ci := rowAt N4.out (KO.refl _) i (by have := HNK.out; omega)
                    rw [Nat.zero_add, HV.out (so : Int) (eo : Int) i (by omega) hi] at ci
                    go_wp2
                    go_roundw
                    case rel => exact ⟨i + 1, by go_num, by omega, by omega, trivial⟩
                    case measure => simp [intOf]; omega
                  · obtain rfl : i = k + 1 := by omega
                    have iik : ¬ ((k + 1 : Nat) : Int) ≤ (k : Int) := by omega
                    go_wp2
                    go_roundw
                    case rel => exact ⟨eo + 1, by go_num, by omega, by omega, K4⟩
                    case measure => simp [intOf]; omega
              · obtain rfl : eo = 3 := by omega
                go_wp2
                go_roundw
                case rel => exact ⟨so + 1, by go_num, by omega, by omega, hkeo⟩
                case measure => simp [intOf]; omega
          · obtain rfl : so = 3 := by omega
            have K9 := hide (KO.on K3.out hkso.out)
            go_wp2
            go_ret
            exact ⟨rfl, K9.out⟩
      · rw [if_neg h] at HV
        clear h
        go_wp2_with fail
        refine (HSX.out _).mono ?_
        rintro e w' ⟨rfl, rfl⟩
        go_wp2_with fail
        refine (HSY.out _).mono ?_
        rintro e w' ⟨rfl, rfl⟩
        clear HSX HSY
        generalize z = V at *
        go_wp2
        go_loopw [15] (fun v15 wr => ∃ so : Nat, v15 = .int .i64 (so : Int) ∧ 1 ≤ so ∧ so ≤ 3 ∧ Hid (KO w2 wr)) (fun v15 _ => 3 - (intOf v15).toNat)
        case atStart => exact ⟨1, rfl, by omega, by omega, hide (KO.refl _)⟩
        case round =>
          obtain ⟨so, rfl, hso1, hso3, hkso⟩ := hrel
          by_cases hso : so ≤ 2
          · have iso : (so : Int) ≤ 2 := by omega
            have HSO := hide (show (so : Int) = 1 ∨ (so : Int) = 2 from by omega)
            go_wp2
            go_loopw [16] (fun v16 wr => ∃ eo : Nat, v16 = .int .i64 (eo : Int) ∧ 1 ≤ eo ∧ eo ≤ 3 ∧ Hid (KO w2 wr)) (fun v16 _ => 3 - (intOf v16).toNat)
            case atStart => exact ⟨1, rfl, by omega, by omega, hkso⟩
            case round =>
              obtain ⟨eo, rfl, heo1, heo3, hkeo⟩ := hrel
              by_cases heo : eo ≤ 2
              · have ieo : (eo : Int) ≤ 2 := by omega
                have HEO := hide (show (eo : Int) = 1 ∨ (eo : Int) = 2 from by omega)
                have HC := hide (HRS.out _ hkeo.out (so : Int) (eo : Int) HSO.out HEO.out)
                go_wp2_with fail
                refine HC.out.mono ?_
                rintro e w4 ⟨g4, rfl, hr4, hk4⟩
                have K4 := hide (KO.on hkeo.out hk4)
                have N4 := hide hr4
                clear hr4 hk4 HC
                go_wp2
                go_loopw [19] (fun v19 wr => ∃ i : Nat, v19 = .int .i64 (i : Int) ∧ 1 ≤ i ∧ i ≤ k + 1 ∧ w4 = wr) (fun v19 _ => k + 1 - (intOf v19).toNat)
                case atStart => exact ⟨1, rfl, by omega, by omega, rfl⟩
                case round =>
                  obtain ⟨i, rfl, hi1, hi2, rfl⟩ := hrel
                  by_cases hi : i ≤ k
                  · have iik : (i : Int) ≤ (k : Int) := by omega
                    have iin : (i : Int) < (N : Int) := by have := HNK.out; omega
                    have ci := rowAt N4.out (KO.refl _) i (by have := HNK.out; omega)
                    rw [Nat.zero_add, HV.out (so : Int) (eo : Int) i (by omega) hi] at ci
                    go_wp2
                    go_roundw
                    case rel => exact ⟨i + 1, by go_num, by omega, by omega, trivial⟩
                    case measure => simp [intOf]; omega
                  · obtain rfl : i = k + 1 := by omega
                    have iik : ¬ ((k + 1 : Nat) : Int) ≤ (k : Int) := by omega
                    go_wp2
                    go_roundw
                    case rel => exact ⟨eo + 1, by go_num, by omega, by omega, K4⟩
                    case measure => simp [intOf]; omega
              · obtain rfl : eo = 3 := by omega
                go_wp2
                go_roundw
                case rel => exact ⟨so + 1, by go_num, by omega, by omega, hkeo⟩
                case measure => simp [intOf]; omega
          · obtain rfl : so = 3 := by omega
            have K9 := hide (KO.on K3.out hkso.out)
            go_wp2
            go_ret
            exact ⟨rfl, K9.out⟩
end Go.Proofs.Ytbpjacalnipkgaa
