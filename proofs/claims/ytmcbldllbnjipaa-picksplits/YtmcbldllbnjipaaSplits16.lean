/- PickSplits: two ranges that follow one another have runs that do not meet, and together the columns of the whole range. -/
import Derived.Test.YtmcbldllbnjipaaPx16
import Derived.Test.YtmcbldllbnjipaaWk16
import Derived.Test.YtmcbldllbnjipaaNew
namespace Go.Proofs.Ytmcbldllbnjipaa
open Go.RowKit
set_option linter.unusedVariables false
set_option maxHeartbeats 1600000
set_option maxRecDepth 100000
/-- A row that is written, beside a block that is not. -/
structure MS (w : World) (n : Nat) (zs : List Int) (g : Nat) (o : Obj) (W : World) : Prop where
  nr : NR .i64 3 w n zs W
  blk : W.heap[g]? = some o
  ne : w.heap.size < g
theorem MS.set {w W : World} {n g : Nat} {zs : List Int} {o : Obj} (h : MS w n zs g o W) (j : Nat) (y : Int) : MS w n (zs.set j y) g o (W.setCell ⟨w.heap.size, j, none⟩ (.int .i64 y)) :=
  ⟨h.nr.set j y, (Below.heap_setCell W _ _ g (by have := h.ne; show g ≠ w.heap.size; omega)).trans h.blk, h.ne⟩
theorem MS.alloc {w W : World} {n g : Nat} {zs : List Int} {o : Obj} (h : MS w n zs g o W) (o' : Obj) : MS w n zs g o (W.alloc o') :=
  ⟨h.nr.keep (KO.alloc (KO.refl _) _), (Below.heap_alloc W o' g (Array.getElem?_eq_some_iff.1 h.blk).1).trans h.blk, h.ne⟩
theorem MS.eq {w W : World} {n g : Nat} {zs ys : List Int} {o : Obj} (h : MS w n zs g o W) (e : zs = ys) : MS w n ys g o W := by rw [← e]; exact h
theorem cell_of_blk {W : World} {g : Nat} {vs : Array Value} {t : TypeId} (h : W.heap[g]? = some (.cells vs t (0, 0))) (j : Nat) : W.cell? ⟨g, j, none⟩ = vs[j]? := by
  simp [World.cell?, h]
theorem blk_set {W : World} {g : Nat} {o : Obj} (h : W.heap[g]? = some o) {p : Addr} (hp : g ≠ p.block) (v : Value) : (W.setCell p v).heap[g]? = some o := (Below.heap_setCell W p v g hp).trans h
theorem mr_bound {g : Nat → Int} {d : Int} {P : List (Nat × Nat)} {i j : Nat} (h1 : Pk.cn P i j ≤ 1) (h2 : 0 ≤ g j ∧ g j ≤ 2) (hd : 0 ≤ d ∧ d ≤ 10) : 0 ≤ Pk.mr g d P i j ∧ Pk.mr g d P i j ≤ 12 := by
  unfold Pk.mr
  rcases Nat.eq_zero_or_pos (Pk.cn P i j) with h | h
  · rw [h]; simp; omega
  · rw [show Pk.cn P i j = 1 from by omega]; simp; omega
theorem PickSplits_walk (w : World) (a0 : Option Addr) (n0 cap0 : Nat) (l : List Int) (h0 : Row .i64 w a0 n0 cap0 l) (hf0 : ∀ x ∈ l, (Lit.int .i64 x).wf = true) (hs0 : n0 * 8 ≤ 140737488351232) (a : Int) (haa : (Lit.int .i64 a).wf = true) (b : Int) (hbb : (Lit.int .i64 b).wf = true) (c : Int) (hcc : (Lit.int .i64 c).wf = true) :
    Calls Try.prog 8 #[.slice a0 n0 cap0, .int .i64 a, .int .i64 b, .int .i64 c] w fun e w' => e = .returned (.bool true) ∧ Below w.heap.size w w' := by
  have HW := hide (works16_any w)
  have hl := h0.len
  obtain ⟨X, E1, hA1⟩ := PRA_some l a b
  obtain ⟨Y, E2, hA2⟩ := PRA_some l b c
  obtain ⟨Z, E3, hA3⟩ := PRA_some l a c
  have H1 := hide (fun (W : World) (hk : KO w W) => pruns_any a0 n0 cap0 l a b W (h0.below hk) hs0 _ _ hA1)
  have H2 := hide (fun (W : World) (hk : KO w W) => pruns_any a0 n0 cap0 l b c W (h0.below hk) hs0 _ _ hA2)
  have H3 := hide (fun (W : World) (hk : KO w W) => pruns_any a0 n0 cap0 l a c W (h0.below hk) hs0 _ _ hA3)
  by_cases hE : E1 = 0 ∧ E2 = 0
  · obtain ⟨rfl, rfl⟩ := hE
    obtain ⟨hfo, hr1, hX⟩ : Od.Fo l ∧ (0 ≤ a ∧ b ≤ (l.length : Int) ∧ a ≤ b) ∧ X = Pk.RU (Pk.qc (Od.ON l) a b) (Od.ON l).length := by
      rcases hA1 with ⟨h1, h2, h3, _⟩ | ⟨_, _, h⟩ | ⟨_, _, _, h⟩
      · exact ⟨h1, h2, h3⟩
      · cases h
      · cases h
    obtain ⟨hr2, hY⟩ : (0 ≤ b ∧ c ≤ (l.length : Int) ∧ b ≤ c) ∧ Y = Pk.RU (Pk.qc (Od.ON l) b c) (Od.ON l).length := by
      rcases hA2 with ⟨h1, h2, h3, _⟩ | ⟨_, _, h⟩ | ⟨_, _, _, h⟩
      · exact ⟨h2, h3⟩
      · cases h
      · cases h
    obtain ⟨hZ, hE3⟩ : Z = Pk.RU (Pk.qc (Od.ON l) a c) (Od.ON l).length ∧ E3 = 0 := by
      rcases hA3 with ⟨h1, h2, h3, h4⟩ | ⟨h, _⟩ | ⟨_, h, _⟩
      · exact ⟨h3, h4⟩
      · exact absurd hfo h
      · exact absurd ⟨by omega, by omega, by omega⟩ h
    subst hE3
    obtain ⟨m, hm⟩ : ∃ m, (Od.ON l).length = m := ⟨_, rfl⟩
    have hmn : m ≤ n0 := by
      have := Od.K_le l
      rw [← hm, Od.ON_len, Od.OD_len]
      omega
    rw [hm] at hX hY hZ
    have HEND : Hid (∀ j, Pk.mr (Pk.gs X Y 2) 10 Z Z.length j = 0 ∨ Pk.mr (Pk.gs X Y 2) 10 Z Z.length j = 11) := hide (fun j => by
      rw [hX, hY, hZ]; exact Pk.split_ok hr1.2.2 hr2.2.2 j)
    have HRX : Hid (∀ i, i < X.length → (X.getD i (0, 0)).1 < (X.getD i (0, 0)).2 ∧ (X.getD i (0, 0)).2 ≤ m) := hide (fun i hi => by
      rw [hX] at hi ⊢; have := Pk.RU_run (Pk.RU_at hi); exact ⟨this.1, this.2.1⟩)
    have HRY : Hid (∀ i, i < Y.length → (Y.getD i (0, 0)).1 < (Y.getD i (0, 0)).2 ∧ (Y.getD i (0, 0)).2 ≤ m) := hide (fun i hi => by
      rw [hY] at hi ⊢; have := Pk.RU_run (Pk.RU_at hi); exact ⟨this.1, this.2.1⟩)
    have HRZ : Hid (∀ i, i < Z.length → (Z.getD i (0, 0)).1 < (Z.getD i (0, 0)).2 ∧ (Z.getD i (0, 0)).2 ≤ m) := hide (fun i hi => by
      rw [hZ] at hi ⊢; have := Pk.RU_run (Pk.RU_at hi); exact ⟨this.1, this.2.1⟩)
    have HCX : Hid (∀ i j, i ≤ X.length → Pk.cn X i j ≤ 1) := hide (fun i j hi => by rw [hX] at hi ⊢; exact Pk.cn_le i hi)
    have HCY : Hid (∀ i j, i ≤ Y.length → Pk.cn Y i j ≤ 1) := hide (fun i j hi => by rw [hY] at hi ⊢; exact Pk.cn_le i hi)
    have HCZ : Hid (∀ i j, i ≤ Z.length → Pk.cn Z i j ≤ 1) := hide (fun i j hi => by rw [hZ] at hi ⊢; exact Pk.cn_le i hi)
    have HG : Hid (∀ j, (0 ≤ Pk.gs X Y 0 j ∧ Pk.gs X Y 0 j ≤ 2) ∧ (0 ≤ Pk.gs X Y 1 j ∧ Pk.gs X Y 1 j ≤ 2) ∧ (0 ≤ Pk.gs X Y 2 j ∧ Pk.gs X Y 2 j ≤ 2)) := hide (fun j => by
      have g1 := HCX.out X.length j (Nat.le_refl _)
      have g2 := HCY.out Y.length j (Nat.le_refl _)
      refine ⟨⟨Int.le_refl _, by show (0 : Int) ≤ 2; omega⟩, ?_, ?_⟩
      · have e : Pk.gs X Y 1 j = 0 + 1 * (Pk.cn X X.length j : Int) := rfl
        rw [e]
        omega
      · have e : Pk.gs X Y 2 j = 0 + 1 * (Pk.cn X X.length j : Int) + 1 * (Pk.cn Y Y.length j : Int) := rfl
        rw [e]
        omega)
    have HG1 : Hid (∀ n, Pk.ML n (Pk.mr (Pk.gs X Y 0) 1 X X.length) = Pk.ML n (Pk.gs X Y 1)) := hide (fun n => rfl)
    have HG2 : Hid (∀ n, Pk.ML n (Pk.mr (Pk.gs X Y 1) 1 Y Y.length) = Pk.ML n (Pk.gs X Y 2)) := hide (fun n => rfl)
    have HG0 : Hid (List.replicate n0 (0 : Int) = Pk.ML n0 (Pk.gs X Y 0)) := hide (by
      refine List.ext_getElem (by simp [Pk.ML]) fun i h1 h2 => ?_
      simp [Pk.ML, Pk.gs])
    obtain ⟨gg, hgg⟩ : ∃ gg, Pk.gs X Y = gg := ⟨_, rfl⟩
    rw [hgg] at HEND HG HG0 HG1 HG2
    obtain ⟨ii, hii, hy0, hy1, hy2⟩ := info_parts infoInt
    have HII : Hid (Try.prog.info? 3 = some ii) := hii
    have HY0 := hide hy0
    have HY1 := hide hy1
    have HY2 := hide hy2
    have hcp := h0.le
    have hmx := h0.max
    unfold maxLen at hmx
    obtain ⟨NX, hNX⟩ : ∃ NX, X.length = NX := ⟨_, rfl⟩
    obtain ⟨NY, hNY⟩ : ∃ NY, Y.length = NY := ⟨_, rfl⟩
    obtain ⟨NZ, hNZ⟩ : ∃ NZ, Z.length = NZ := ⟨_, rfl⟩
    rw [hNX] at H1 HRX HCX HG1
    rw [hNY] at H2 HRY HCY HG2
    rw [hNZ] at H3 HRZ HCZ HEND
    clear h0 hf0 hfo haa hbb hcc hA1 hA2 hA3 hX hY hZ hm hgg hNX hNY hNZ hii hy0 hy1 hy2 hr1 hr2 hl
    go_enter Try.func8, Try.ntmps8
    go_wp2_with fail
    refine HW.out.mono ?_
    rintro e w1 ⟨rfl, hk1⟩
    have K1 := hide hk1
    have H1a := hide (H1.out w1 hk1)
    clear hk1 HW H1
    go_wp2_with fail
    refine H1a.out.mono ?_
    rintro e w2 ⟨ax, cx, rfl, hp2, hk2⟩
    have K2 := hide (KO.on K1.out hk2)
    have PX := hide hp2
    have H2a := hide (H2.out w2 K2.out)
    clear hp2 hk2 H1a H2
    go_wp2_with fail
    refine H2a.out.mono ?_
    rintro e w3 ⟨ay, cy, rfl, hp3, hk3⟩
    have K3 := hide (KO.on K2.out hk3)
    have PX3 := hide (PX.out.below hk3)
    have PY3 := hide hp3
    have H3a := hide (H3.out w3 K3.out)
    clear hp3 hk3 H2a H3 PX
    go_wp2_with fail
    refine H3a.out.mono ?_
    rintro e w4 ⟨az, cz, rfl, hp4, hk4⟩
    have K4 := hide (KO.on K3.out hk4)
    have PX4 := hide (PX3.out.below hk4)
    have PY4 := hide (PY3.out.below hk4)
    have PZ4 := hide hp4
    have lx := PX4.out.le
    have mx := PX4.out.max
    have ly := PY4.out.le
    have my := PY4.out.max
    have lz := PZ4.out.le
    have mz := PZ4.out.max
    unfold maxLen at mx my mz
    clear hp4 hk4 H3a PX3 PY3
    go_wp2_with (at_make; refine wpList_make_full _ rfl _ _ 22 rfl w4.heap.size 3 ii (.int .i64 0) 1 Try.underlying22 HII.out HY0.out HY1.out _ _ _ _ n0 rfl rfl rfl rfl ?b2 ?b3 (Nat.le_refl _) ?_)
    case b2 => rw [HY2.out]; omega
    case b3 => unfold maxLen; omega
    intro w5 hown hgrow
    have hbel := (Below.refl w4.heap.size w4).grown hgrow (Nat.le_refl _) (fun _ h => by cases h)
    have HN5 : Hid (NR .i64 3 w4 n0 (Pk.ML n0 (gg 0)) w5) := hide ⟨by
      have e2 : (madeCells #[Value.int .i64 0] n0).toList = (Pk.ML n0 (gg 0)).map (Value.int .i64) := by
        rw [← HG0.out]
        simp [toList_madeCells_one]
      rw [← e2]
      exact hown, hbel⟩
    have hs5 : w4.heap.size < w5.heap.size := (hown.lt w4.heap.size rfl).2
    clear hown hgrow hbel HG0
    have HM6 : Hid (MS w4 n0 (Pk.ML n0 (gg 0)) w5.heap.size (.cells #[.slice ax NX cx, .slice ay NY cy] 24) (w5.alloc (.cells #[.slice ax NX cx, .slice ay NY cy] 24))) := hide ⟨HN5.out.keep (KO.alloc (KO.refl _) _), World.alloc_heap_new w5 _, hs5⟩
    clear HN5
    go_wp2_with fail
    go_loopw [64] (fun s64 W => ∃ i : Nat, s64 = .int .i64 (i : Int) ∧ i ≤ 2 ∧ Hid (MS w4 n0 (Pk.ML n0 (gg i)) w5.heap.size (.cells #[.slice ax NX cx, .slice ay NY cy] 24) W)) (fun s64 _ => 2 - (intOf s64).toNat)
    case atStart => exact ⟨0, rfl, by omega, HM6⟩
    case round =>
      clear HM6
      obtain ⟨i, rfl, hi, hm⟩ := hrel
      by_cases hlt : i < 2
      · have hin : (i : Int) < 2 := by omega
        obtain ⟨ap, NP, cp, P, hcl, hpp, hrp, hcn, hgi, hnext, hlc⟩ : ∃ (ap : Option Addr) (NP cp : Nat) (P : List (Nat × Nat)), wr.cell? ⟨w5.heap.size, i, none⟩ = some (.slice ap NP cp) ∧ Hid (Pairs w4 ap NP cp P) ∧ Hid (∀ i, i < NP → (P.getD i (0, 0)).1 < (P.getD i (0, 0)).2 ∧ (P.getD i (0, 0)).2 ≤ m) ∧ Hid (∀ i j, i ≤ NP → Pk.cn P i j ≤ 1) ∧ Hid (∀ j, 0 ≤ gg i j ∧ gg i j ≤ 2) ∧ Hid (∀ n, Pk.ML n (Pk.mr (gg i) 1 P NP) = Pk.ML n (gg (i + 1))) ∧ (NP ≤ cp ∧ cp ≤ 2 ^ 63 - 1) := by
          rcases Nat.lt_or_ge i 1 with h | h
          · obtain rfl : i = 0 := by omega
            exact ⟨ax, NX, cx, X, by rw [cell_of_blk hm.out.blk]; rfl, PX4, HRX, HCX, hide (fun j => (HG.out j).1), HG1, lx, mx⟩
          · obtain rfl : i = 1 := by omega
            exact ⟨ay, NY, cy, Y, by rw [cell_of_blk hm.out.blk]; rfl, PY4, HRY, HCY, hide (fun j => (HG.out j).2.1), HG2, ly, my⟩
        obtain ⟨hl1, hl2⟩ := hlc
        go_wp2
        go_loopw [70] (fun s70 W => ∃ j : Nat, s70 = .int .i64 (j : Int) ∧ j ≤ NP ∧ Hid (MS w4 n0 (Pk.ML n0 (Pk.mr (gg i) 1 P j)) w5.heap.size (.cells #[.slice ax NX cx, .slice ay NY cy] 24) W)) (fun s70 _ => NP - (intOf s70).toNat)
        case atStart => exact ⟨0, rfl, Nat.zero_le _, hide (hm.out.eq Pk.mr_zero.symm)⟩
        case round =>
          clear hm hcl
          obtain ⟨j, rfl, hj, hm⟩ := hrel
          by_cases hlt2 : j < NP
          · have hin2 : (j : Int) < (NP : Int) := by omega
            obtain ⟨bp, rfl, hbp, hcp2⟩ := hpp.out.cells (by omega)
            have c0 := (Below.cell hm.out.nr.bel (by exact hbp)).trans (hcp2 j hlt2).1
            have c1 := (Below.cell hm.out.nr.bel (by exact hbp)).trans (hcp2 j hlt2).2
            obtain ⟨h1, h2⟩ := hrp.out j hlt2
            have HB := hide (Pk.mg_begin (g := gg i) (d := 1) (P := P) (n := n0) (i := j))
            have HE := hide (Pk.mg_end (g := gg i) (d := 1) (P := P) (n := n0) (i := j))
            have HS := hide (fun k => Pk.mg_set (g := gg i) (d := 1) (P := P) (n := n0) (i := j) (k := k))
            have HA := hide (fun k => Pk.mg_at (g := gg i) (d := 1) (P := P) (n := n0) (i := j) (k := k))
            clear hcp2
            generalize (P.getD j (0, 0)).1 = p at *
            generalize (P.getD j (0, 0)).2 = q at *
            have hrm : ∀ (w' : World) (ts : Array TypeId) (t : TypeId), (Builtin.max_ ts t #[.int .i64 0, .int .i64 (p : Int)]).run Try.prog w' = .ok (.int .i64 (p : Int)) w' := fun w' ts t => by
              rw [run_max_int2]
              congr 2
              split <;> omega
            obtain ⟨V, hV⟩ : ∃ V, wr.alloc (.cells #[.int .i64 (p : Int), .int .i64 (q : Int)] 39) = V := ⟨_, rfl⟩
            have v0 : V.cell? ⟨wr.heap.size, 0, none⟩ = some (.int .i64 (p : Int)) := by rw [← hV, World.cell?_alloc_mark]; rfl
            have HV := hide (hV ▸ hm.out.alloc (.cells #[.int .i64 (p : Int), .int .i64 (q : Int)] 39))
            have HK : Hid (V.heap[wr.heap.size]? = some (.cells #[.int .i64 (p : Int), .int .i64 (q : Int)] 39 (0, 0))) := hide (by rw [← hV]; exact World.alloc_heap_new wr _)
            obtain ⟨rb, hrb⟩ : ∃ rb, wr.heap.size = rb := ⟨_, rfl⟩
            have HRB : Hid (w4.heap.size < rb) := hide (by rw [← hrb]; exact (hm.out.nr.own.lt w4.heap.size rfl).2)
            rw [hrb] at v0 HK
            clear hm
            go_wp2
            clear hV
            go_loopw [20] (fun s20 W => ∃ k : Nat, s20 = .int .i64 (k : Int) ∧ p ≤ k ∧ k ≤ q ∧ Hid (MS w4 n0 (Pk.ML n0 (Pk.mg (gg i) 1 P j k)) w5.heap.size (.cells #[.slice ax NX cx, .slice ay NY cy] 24) W) ∧ Hid (W.heap[rb]? = some (.cells #[.int .i64 (p : Int), .int .i64 (q : Int)] 39 (0, 0)))) (fun s20 _ => q - (intOf s20).toNat)
            case atStart => exact ⟨p, rfl, Nat.le_refl _, by omega, hide (HV.out.eq HB.out.symm), HK⟩
            case round =>
              clear HV HK v0
              obtain ⟨k, rfl, hk1, hk2, hm, hkb⟩ := hrel
              have v1 : wr.cell? ⟨rb, 1, none⟩ = some (.int .i64 (q : Int)) := by rw [cell_of_blk hkb.out]; rfl
              by_cases hlt3 : k < q
              · have hin3 : (k : Int) < (q : Int) := by omega
                have hkn : (k : Int) < (n0 : Int) := by omega
                have ck := hm.out.nr.cell (j := k) (by omega)
                rw [HA.out k (by omega)] at ck
                have fk := hm.out.nr.fz k
                have hbd := mr_bound (g := gg i) (d := 1) (P := P) (i := j) (j := k) (hcn.out j k (by omega)) (hgi.out k) (by omega)
                have hset := HS.out k (by omega) hk1
                have HM7 := hide ((hm.out.set k (Pk.mr (gg i) 1 P j k + 1)).eq hset)
                have HK7 := hide (blk_set hkb.out (p := ⟨w4.heap.size, k, none⟩) (by have := HRB.out; show rb ≠ w4.heap.size; omega) (.int .i64 (Pk.mr (gg i) 1 P j k + 1)))
                clear hset hm hkb
                generalize Pk.mr (gg i) 1 P j k = v at *
                obtain ⟨hb1, hb2⟩ := hbd
                go_wp2
                go_roundw
                case rel => exact ⟨k + 1, by go_num, by omega, by omega, HM7, HK7⟩
                case measure => simp [intOf]; omega
              · obtain rfl : q = k := by omega
                have hne3 : ¬ (q : Int) < (q : Int) := by omega
                go_wp2
                go_roundw
                case rel => exact ⟨j + 1, by go_num, by omega, hide (hm.out.eq HE.out)⟩
                case measure => simp [intOf]; omega
          · obtain rfl : NP = j := by omega
            have hne2 : ¬ (NP : Int) < (NP : Int) := by omega
            go_wp2
            go_roundw
            case rel => exact ⟨i + 1, by go_num, by omega, hide (hm.out.eq (hnext.out n0))⟩
            case measure => simp [intOf]; omega
      · obtain rfl : i = 2 := by omega
        have hne : ¬ ((2 : Nat) : Int) < 2 := by omega
        have HG2b : Hid (∀ j, 0 ≤ gg 2 j ∧ gg 2 j ≤ 2) := hide (fun j => (HG.out j).2.2)
        clear HG1 HG2 HRX HRY HCX HCY PX4 PY4 HG
        generalize gg 2 = g2 at *
        go_wp2
        go_loopw [99] (fun s99 W => ∃ j : Nat, s99 = .int .i64 (j : Int) ∧ j ≤ NZ ∧ Hid (MS w4 n0 (Pk.ML n0 (Pk.mr g2 10 Z j)) w5.heap.size (.cells #[.slice ax NX cx, .slice ay NY cy] 24) W)) (fun s99 _ => NZ - (intOf s99).toNat)
        case atStart => exact ⟨0, rfl, Nat.zero_le _, hide (hm.out.eq Pk.mr_zero.symm)⟩
        case round =>
          clear hm
          obtain ⟨j, rfl, hj, hm⟩ := hrel
          by_cases hlt2 : j < NZ
          · have hin2 : (j : Int) < (NZ : Int) := by omega
            obtain ⟨bp, rfl, hbp, hcp2⟩ := PZ4.out.cells (by omega)
            have c0 := (Below.cell hm.out.nr.bel (by exact hbp)).trans (hcp2 j hlt2).1
            have c1 := (Below.cell hm.out.nr.bel (by exact hbp)).trans (hcp2 j hlt2).2
            obtain ⟨h1, h2⟩ := HRZ.out j hlt2
            have HB := hide (Pk.mg_begin (g := g2) (d := 10) (P := Z) (n := n0) (i := j))
            have HE := hide (Pk.mg_end (g := g2) (d := 10) (P := Z) (n := n0) (i := j))
            have HS := hide (fun k => Pk.mg_set (g := g2) (d := 10) (P := Z) (n := n0) (i := j) (k := k))
            have HA := hide (fun k => Pk.mg_at (g := g2) (d := 10) (P := Z) (n := n0) (i := j) (k := k))
            clear hcp2
            generalize (Z.getD j (0, 0)).1 = p at *
            generalize (Z.getD j (0, 0)).2 = q at *
            have hrm : ∀ (w' : World) (ts : Array TypeId) (t : TypeId), (Builtin.max_ ts t #[.int .i64 0, .int .i64 (p : Int)]).run Try.prog w' = .ok (.int .i64 (p : Int)) w' := fun w' ts t => by
              rw [run_max_int2]
              congr 2
              split <;> omega
            obtain ⟨V, hV⟩ : ∃ V, wr.alloc (.cells #[.int .i64 (p : Int), .int .i64 (q : Int)] 39) = V := ⟨_, rfl⟩
            have v0 : V.cell? ⟨wr.heap.size, 0, none⟩ = some (.int .i64 (p : Int)) := by rw [← hV, World.cell?_alloc_mark]; rfl
            have HV := hide (hV ▸ hm.out.alloc (.cells #[.int .i64 (p : Int), .int .i64 (q : Int)] 39))
            have HK : Hid (V.heap[wr.heap.size]? = some (.cells #[.int .i64 (p : Int), .int .i64 (q : Int)] 39 (0, 0))) := hide (by rw [← hV]; exact World.alloc_heap_new wr _)
            obtain ⟨rb, hrb⟩ : ∃ rb, wr.heap.size = rb := ⟨_, rfl⟩
            have HRB : Hid (w4.heap.size < rb) := hide (by rw [← hrb]; exact (hm.out.nr.own.lt w4.heap.size rfl).2)
            rw [hrb] at v0 HK
            clear hm
            go_wp2
            clear hV
            go_loopw [23] (fun s20 W => ∃ k : Nat, s20 = .int .i64 (k : Int) ∧ p ≤ k ∧ k ≤ q ∧ Hid (MS w4 n0 (Pk.ML n0 (Pk.mg g2 10 Z j k)) w5.heap.size (.cells #[.slice ax NX cx, .slice ay NY cy] 24) W) ∧ Hid (W.heap[rb]? = some (.cells #[.int .i64 (p : Int), .int .i64 (q : Int)] 39 (0, 0)))) (fun s20 _ => q - (intOf s20).toNat)
            case atStart => exact ⟨p, rfl, Nat.le_refl _, by omega, hide (HV.out.eq HB.out.symm), HK⟩
            case round =>
              clear HV HK v0
              obtain ⟨k, rfl, hk1, hk2, hm, hkb⟩ := hrel
              have v1 : wr.cell? ⟨rb, 1, none⟩ = some (.int .i64 (q : Int)) := by rw [cell_of_blk hkb.out]; rfl
              by_cases hlt3 : k < q
              · have hin3 : (k : Int) < (q : Int) := by omega
                have hkn : (k : Int) < (n0 : Int) := by omega
                have ck := hm.out.nr.cell (j := k) (by omega)
                rw [HA.out k (by omega)] at ck
                have fk := hm.out.nr.fz k
                have hbd := mr_bound (g := g2) (d := 10) (P := Z) (i := j) (j := k) (HCZ.out j k (by omega)) (HG2b.out k) (by omega)
                have hset := HS.out k (by omega) hk1
                have HM7 := hide ((hm.out.set k (Pk.mr g2 10 Z j k + 10)).eq hset)
                have HK7 := hide (blk_set hkb.out (p := ⟨w4.heap.size, k, none⟩) (by have := HRB.out; show rb ≠ w4.heap.size; omega) (.int .i64 (Pk.mr g2 10 Z j k + 10)))
                clear hset hm hkb
                generalize Pk.mr g2 10 Z j k = v at *
                obtain ⟨hb1, hb2⟩ := hbd
                go_wp2
                go_roundw
                case rel => exact ⟨k + 1, by go_num, by omega, by omega, HM7, HK7⟩
                case measure => simp [intOf]; omega
              · obtain rfl : q = k := by omega
                have hne3 : ¬ (q : Int) < (q : Int) := by omega
                go_wp2
                go_roundw
                case rel => exact ⟨j + 1, by go_num, by omega, hide (hm.out.eq HE.out)⟩
                case measure => simp [intOf]; omega
          · obtain rfl : NZ = j := by omega
            have hne2 : ¬ (NZ : Int) < (NZ : Int) := by omega
            have KF := hide (KO.on K4.out hm.out.nr.bel)
            go_wp2
            go_loop [127] (fun s127 => ∃ k : Nat, s127 = .int .i64 (k : Int) ∧ k ≤ n0) (fun s127 => n0 - (intOf s127).toNat)
            case atStart => exact ⟨0, rfl, Nat.zero_le _⟩
            case round =>
              obtain ⟨k, rfl, hk⟩ := hrel
              by_cases hlt3 : k < n0
              · have hin3 : (k : Int) < (n0 : Int) := by omega
                have ck := hm.out.nr.cell (j := k) hlt3
                rw [Pk.ML_at hlt3] at ck
                have hor := HEND.out k
                generalize Pk.mr g2 10 Z NZ k = v at *
                rcases hor with rfl | rfl
                all_goals (
                  go_wp2
                  go_round
                  case rel => exact ⟨k + 1, by go_num, by omega⟩
                  case measure => simp [intOf]; omega)
              · obtain rfl : n0 = k := by omega
                have hne3 : ¬ (n0 : Int) < (n0 : Int) := by omega
                go_wp2
                go_ret
                exact ⟨rfl, KF.out⟩
  · have hor : (¬ E1 = 0) ∨ (E1 = 0 ∧ ¬ E2 = 0) := by
      by_cases h : E1 = 0
      · exact .inr ⟨h, fun g => hE ⟨h, g⟩⟩
      · exact .inl h
    clear h0 hf0 haa hbb hcc hA1 hA2 hA3 hl hE
    generalize X.length = NX at *
    generalize Y.length = NY at *
    generalize Z.length = NZ at *
    rcases hor with h1 | ⟨rfl, h2⟩
    · have hb1 : (E1 != 0) = true := bne_iff_ne.2 h1
      go_enter Try.func8, Try.ntmps8
      go_wp2_with fail
      refine HW.out.mono ?_
      rintro e w1 ⟨rfl, hk1⟩
      have K1 := hide hk1
      have H1a := hide (H1.out w1 hk1)
      clear hk1 HW H1
      go_wp2_with fail
      refine H1a.out.mono ?_
      rintro e w2 ⟨ax, cx, rfl, hp2, hk2⟩
      have K2 := hide (KO.on K1.out hk2)
      have H2a := hide (H2.out w2 K2.out)
      clear hp2 hk2 H1a H2
      go_wp2_with fail
      refine H2a.out.mono ?_
      rintro e w3 ⟨ay, cy, rfl, hp3, hk3⟩
      have K3 := hide (KO.on K2.out hk3)
      have H3a := hide (H3.out w3 K3.out)
      clear hp3 hk3 H2a H3
      go_wp2_with fail
      refine H3a.out.mono ?_
      rintro e w4 ⟨az, cz, rfl, hp4, hk4⟩
      have K4 := hide (KO.on K3.out hk4)
      clear hp4 hk4 H3a
      go_wp2
      go_ret
      exact ⟨rfl, K4.out⟩
    · have hb2 : (E2 != 0) = true := bne_iff_ne.2 h2
      go_enter Try.func8, Try.ntmps8
      go_wp2_with fail
      refine HW.out.mono ?_
      rintro e w1 ⟨rfl, hk1⟩
      have K1 := hide hk1
      have H1a := hide (H1.out w1 hk1)
      clear hk1 HW H1
      go_wp2_with fail
      refine H1a.out.mono ?_
      rintro e w2 ⟨ax, cx, rfl, hp2, hk2⟩
      have K2 := hide (KO.on K1.out hk2)
      have H2a := hide (H2.out w2 K2.out)
      clear hp2 hk2 H1a H2
      go_wp2_with fail
      refine H2a.out.mono ?_
      rintro e w3 ⟨ay, cy, rfl, hp3, hk3⟩
      have K3 := hide (KO.on K2.out hk3)
      have H3a := hide (H3.out w3 K3.out)
      clear hp3 hk3 H2a H3
      go_wp2_with fail
      refine H3a.out.mono ?_
      rintro e w4 ⟨az, cz, rfl, hp4, hk4⟩
      have K4 := hide (KO.on K3.out hk4)
      clear hp4 hk4 H3a
      go_wp2
      go_ret
      exact ⟨rfl, K4.out⟩
end Go.Proofs.Ytmcbldllbnjipaa
