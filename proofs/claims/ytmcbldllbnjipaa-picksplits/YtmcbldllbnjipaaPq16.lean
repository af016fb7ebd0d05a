/- Places: what stands in columns, by contract. -/
import Derived.Test.YtmcbldllbnjipaaPp16
import Derived.Test.YtmcbldllbnjipaaPi16
import Derived.Test.YtmcbldllbnjipaaPs16
import Derived.Test.YtmcbldllbnjipaaOz13
import Derived.Test.YtmcbldllbnjipaaGrown
namespace Go.Proofs.Ytmcbldllbnjipaa
open Go.RowKit
set_option linter.unusedVariables false
set_option maxHeartbeats 1000000
set_option maxRecDepth 100000
theorem areRuns_any (az : Option Addr) (n cap : Nat) (Z : List (Int × Int)) (m : Int) (w : World) (h : PI w az n cap Z) (r : Bool) (hr : r = true ↔ Pk.AR Z m n) :
    Calls Try.prog 20 #[.slice az n cap, .int .i64 m] w fun e w' => e = .returned (.bool r) ∧ KO w w' := by
  have hle := h.le
  have hmx := h.max
  unfold maxLen at hmx
  have H := hide h
  have HR := hide hr
  clear h hr
  go_enter Try.func20, Try.ntmps20
  go_wp2
  go_loopw [5, 10] (fun s5 s10 W => ∃ k : Nat, s10 = .int .i64 (k : Int) ∧ k ≤ n ∧ s5 = .int .i64 (Pk.enz Z k) ∧ Hid (Pk.AR Z m k) ∧ Hid (KO w W)) (fun _ s10 _ => n - (intOf s10).toNat)
  case atStart => exact ⟨0, rfl, Nat.zero_le _, rfl, hide (Pk.AR_zero Z m), hide (KO.refl w)⟩
  case round =>
    obtain ⟨k, rfl, hk, rfl, hA, hkw⟩ := hrel
    by_cases hlt : k < n
    · have hin : (k : Int) < (n : Int) := by omega
      obtain ⟨b, off, rfl, hb, hc⟩ := H.out.cells (by omega)
      have c0 := (Below.cell hkw.out (by exact hb)).trans (hc k hlt).1
      have c1 := (Below.cell hkw.out (by exact hb)).trans (hc k hlt).2
      have HS := hide (fun h1 h2 h3 => Pk.AR_succ (Z := Z) (m := m) hA.out h1 h2 h3)
      have HE : Hid (Pk.enz Z (k + 1) = (Z.getD k (0, 0)).2) := hide rfl
      have HN := hide (fun (q : Pk.AR Z m n) => q k hlt)
      clear hc
      generalize (Z.getD k (0, 0)).1 = x at *
      generalize (Z.getD k (0, 0)).2 = y at *
      generalize Pk.enz Z k = en at *
      have K2 := hide (KO.alloc hkw.out (.cells #[.int .i64 x, .int .i64 y] 39))
      by_cases h1 : x < en
      · obtain rfl : r = false := by
          rw [← Bool.not_eq_true, HR.out]; intro q; have := HN.out q; omega
        go_wp2
        go_ret
        exact ⟨rfl, K2.out⟩
      · by_cases h2 : y ≤ x
        · obtain rfl : r = false := by
            rw [← Bool.not_eq_true, HR.out]; intro q; have := HN.out q; omega
          go_wp2
          go_ret
          exact ⟨rfl, K2.out⟩
        · by_cases h3 : m < y
          · obtain rfl : r = false := by
              rw [← Bool.not_eq_true, HR.out]; intro q; have := HN.out q; omega
            go_wp2
            go_ret
            exact ⟨rfl, K2.out⟩
          · have HA := hide (HS.out (by omega) (by omega) (by omega))
            clear HS HN hA
            go_wp2
            go_roundw
            case rel => exact ⟨k + 1, by go_num, by omega, by rw [HE.out], HA, K2⟩
            case measure => simp [intOf]; omega
    · obtain rfl : n = k := by omega
      have hne : ¬ (n : Int) < (n : Int) := by omega
      obtain rfl : r = true := HR.out.2 hA.out
      go_wp2
      go_ret
      exact ⟨rfl, hkw.out⟩
/-- What Places answers. -/
def QA (l : List Int) (Z : List (Int × Int)) (P : List Int) (E : Int) : Prop :=
  (¬ Od.Fo l ∧ P = [] ∧ E = 2) ∨ (Od.Fo l ∧ ¬ Pk.AR Z ((Od.ON l).length : Int) Z.length ∧ P = [] ∧ E = 50) ∨ (Od.Fo l ∧ Pk.AR Z ((Od.ON l).length : Int) Z.length ∧ P = Pk.PL (Pk.pr (Od.ON l) Z Z.length) l.length ∧ E = 0)
theorem QA_some (l : List Int) (Z : List (Int × Int)) : ∃ P E, QA l Z P E := by
  by_cases h : Od.Fo l
  · by_cases h2 : Pk.AR Z ((Od.ON l).length : Int) Z.length
    · exact ⟨_, _, .inr (.inr ⟨h, h2, rfl, rfl⟩)⟩
    · exact ⟨_, _, .inr (.inl ⟨h, h2, rfl, rfl⟩)⟩
  · exact ⟨_, _, .inl ⟨h, rfl, rfl⟩⟩
theorem pplaces_any (ao az : Option Addr) (n nz cap cz : Nat) (l : List Int) (Z : List (Int × Int)) (w : World) (h : Row .i64 w ao n cap l) (hz : PI w az nz cz Z) (hn : n * 8 ≤ 140737488351232) (P : List Int) (E : Int) (hA : QA l Z P E) :
    Calls Try.prog 14 #[.slice ao n cap, .slice az nz cz] w fun e w' => ∃ a c, e = .returned (.tuple #[.slice a P.length c, .int .i64 E]) ∧ Row .i64 w' a P.length c P ∧ KO w w' := by
  have hl := h.len
  have hzl := hz.len
  rcases hA with ⟨hf, rfl, rfl⟩ | ⟨hf, hr, rfl, rfl⟩ | ⟨hf, hr, hP, rfl⟩
  · have HO := hide (order_any ao n cap l w h (by omega) [] 2 (.inr ⟨hf, rfl, rfl⟩))
    simp only [List.length_nil] at HO
    clear h hf hz
    go_enter Try.func14, Try.ntmps14
    go_wp2_with fail
    refine HO.out.mono ?_
    rintro e w1 ⟨a1, c1, rfl, hr1, hk1⟩
    have K1 := hide hk1
    clear hr1 hk1 HO
    go_wp2
    go_ret2
    exact ⟨none, 0, rfl, row_nil _ _, K1.out⟩
  · have HO := hide (order_any ao n cap l w h (by omega) (Od.ON l) 0 (.inl ⟨hf, rfl, rfl⟩))
    have HZ := hide (fun (W : World) (hk : KO w W) => areRuns_any az nz cz Z ((Od.ON l).length : Int) W (hz.below hk) false ⟨fun q => (by cases q), fun q => absurd (by rw [hzl]; exact q) hr⟩)
    clear h hf hr hz
    generalize Od.ON l = L at *
    go_enter Try.func14, Try.ntmps14
    go_wp2_with fail
    refine HO.out.mono ?_
    rintro e w1 ⟨a1, c1, rfl, hr1, hk1⟩
    have K1 := hide hk1
    have HZ1 := hide (HZ.out w1 hk1)
    clear hr1 hk1 HO HZ
    go_wp2_with fail
    refine HZ1.out.mono ?_
    rintro e w2 ⟨rfl, hk2⟩
    have K2 := hide (KO.on K1.out hk2)
    clear hk2 HZ1
    go_wp2
    go_ret2
    exact ⟨none, 0, rfl, row_nil _ _, K2.out⟩
  · have HO := hide (order_any ao n cap l w h (by omega) (Od.ON l) 0 (.inl ⟨hf, rfl, rfl⟩))
    have HZ := hide (fun (W : World) (hk : KO w W) => areRuns_any az nz cz Z ((Od.ON l).length : Int) W (hz.below hk) true ⟨fun _ => (by rw [← hzl]; exact hr), fun _ => rfl⟩)
    have hor := Od.ON_orderly hf
    rw [hl] at hor hP
    have hsrt := Pk.sort_pz hor hr
    have hle : (Od.ON l).length ≤ n := by
      have := Od.K_le l
      rw [Od.ON_len, Od.OD_len]
      omega
    obtain ⟨L, hL⟩ : ∃ L, Od.ON l = L := ⟨_, rfl⟩
    rw [hL] at HO HZ hr hsrt hP hle
    rw [← hP] at hsrt
    rw [hzl] at hr hsrt
    obtain ⟨k, hk⟩ : ∃ k, L.length = k := ⟨_, rfl⟩
    rw [hk] at HO HZ hr hle
    have HK := hide hk
    have HA := hide hr
    have HLEN := hide (fun j (hj : j ≤ nz) => Pk.pz_len (L := L) (Pk.AR_less hr hj))
    have HSRT := hide hsrt
    have H2 := hide hz
    have hzle := hz.le
    have hzmx := hz.max
    unfold maxLen at hzmx
    obtain ⟨ii, hii, hy0, hy1, hy2⟩ := info_parts infoInt
    have HII : Hid (Try.prog.info? 3 = some ii) := hii
    have HY0 := hide hy0
    have HY1 := hide hy1
    have HY2 := hide hy2
    clear h hf hr hz hor hL hP hsrt hk hl hzl hii hy0 hy1 hy2
    go_enter Try.func14, Try.ntmps14
    go_wp2_with fail
    refine HO.out.mono ?_
    rintro e w1 ⟨a1, c1, rfl, hr1, hk1⟩
    have K1 := hide hk1
    have HZ1 := hide (HZ.out w1 hk1)
    have R1 := hide hr1
    clear hr1 hk1 HO HZ
    go_wp2_with fail
    refine HZ1.out.mono ?_
    rintro e w2 ⟨rfl, hk2⟩
    have K2 := hide (KO.on K1.out hk2)
    have R2 := hide (R1.out.below hk2)
    have Z2 := hide (H2.out.below K2.out)
    clear hk2 HZ1 R1 H2
    go_wp2
    go_loopw [8, 26] (fun s8 s26 W => ∃ (v : Value) (j : Nat), v = s8 ∧ s26 = .int .i64 (j : Int) ∧ j ≤ nz ∧ Hid (RG w2 (Pk.pz L Z j) (Pk.pz L Z j).length v W)) (fun _ s26 _ => nz - (intOf s26).toNat)
    case atStart => exact ⟨_, 0, rfl, rfl, Nat.zero_le _, hide ⟨World.ownsRow_nil _ _ _ _, Below.refl _ _⟩⟩
    case round =>
      obtain ⟨v, j, hv, rfl, hj, hm⟩ := hrel
      subst hv
      by_cases hlt : j < nz
      · have hin : (j : Int) < (nz : Int) := by omega
        have hm2 := hm.out
        obtain ⟨b, off, rfl, hb, hc⟩ := Z2.out.cells (by omega)
        have c0 := (Below.cell hm2.bel (by exact hb)).trans (hc j hlt).1
        have c1' := (Below.cell hm2.bel (by exact hb)).trans (hc j hlt).2
        have h1 := HA.out j hlt
        have h2 := Pk.enz_pos j (Pk.AR_less HA.out (by omega))
        obtain ⟨x, hx⟩ : ∃ x : Nat, (Z.getD j (0, 0)).1 = (x : Int) := ⟨(Z.getD j (0, 0)).1.toNat, by omega⟩
        obtain ⟨y, hy⟩ : ∃ y : Nat, (Z.getD j (0, 0)).2 = (y : Int) := ⟨(Z.getD j (0, 0)).2.toNat, by omega⟩
        have hst : Pk.pz L Z (j + 1) = Pk.pz L Z j ++ (L.take y).drop x := by
          rw [Pk.pz, hx, hy]; rfl
        rw [hx, hy] at h1
        rw [hx] at c0
        rw [hy] at c1'
        have hxy : x ≤ y := by omega
        have hyk : y ≤ k := by omega
        have hln := HLEN.out (j + 1) (by omega)
        have hl2 : ((L.take y).drop x).length = y - x := by rw [List.length_drop, List.length_take, HK.out, Nat.min_eq_left hyk]
        have hst2 : (Pk.pz L Z (j + 1)).length = (Pk.pz L Z j).length + (y - x) := by rw [hst, List.length_append, hl2]
        rw [hst2, HK.out] at hln
        have HST := hide hst
        have HST2 := hide hst2
        have hcap := R2.out.le
        have hmid := fun W => run_mid (P := Try.prog) Try.underlying22 HII.out cellsInt a1 k c1 x y hxy (by omega) W
        obtain ⟨X, hX⟩ : ∃ X, wr.alloc (.cells #[.int .i64 (x : Int), .int .i64 (y : Int)] 39) = X := ⟨_, rfl⟩
        have n0 : X.cell? ⟨wr.heap.size, 0, none⟩ = some (.int .i64 (x : Int)) := by rw [← hX, World.cell?_alloc_mark]; rfl
        have n1 : X.cell? ⟨wr.heap.size, 1, none⟩ = some (.int .i64 (y : Int)) := by rw [← hX, World.cell?_alloc_mark]; rfl
        have HX : Hid (Below w2.heap.size w2 X) := hide (by rw [← hX]; exact Below.alloc hm2.bel hm2.bel.size _)
        have HOX : Hid (X.ownsRow w2.heap.size 3 1 v (Pk.pz L Z j).length ((Pk.pz L Z j).map (Value.int .i64))) := hide (by rw [← hX]; exact hm2.own.alloc _)
        have HRX := hide (((R2.out.below HX.out).take hyk).drop hxy)
        obtain ⟨a6, c6, hva, _⟩ := owns_form hm2.own
        subst hva
        clear hm hm2 hc h1 h2 hx hy hst hst2 hl2
        generalize Pk.pz L Z j = Y at *
        generalize (L.take y).drop x = D at *
        obtain ⟨ny, hny⟩ : ∃ ny, Y.length = ny := ⟨_, rfl⟩
        rw [hny] at HST2 HOX hln ⊢
        clear hny
        go_wp2_with (at_builtin; refine wpList_append_row _ rfl (.tmp 30) (.tmp 36) 22 rfl w2.heap.size 3 ii (.int .i64 0) 8 Try.underlying22 HII.out HY0.out HY1.out HY2.out rfl _ ny _ rfl HOX.out .i64 _ (y - x) (c1 - x) D rfl HRX.out (by omega) (by omega) HX.out.size ?_; intro v7 w7 ho7 hb7)
        have HM7 : Hid (RG w2 (Pk.pz L Z (j + 1)) (Pk.pz L Z (j + 1)).length v7 w7) := hide (by
          rw [HST2.out, HST.out]
          exact ⟨by rw [List.map_append]; exact ho7, Below.trans HX.out hb7⟩)
        clear ho7 hb7
        go_wp2
        go_roundw
        case rel => exact ⟨_, j + 1, rfl, by go_num, by omega, HM7⟩
        case measure => simp [intOf]; omega
      · obtain rfl : nz = j := by omega
        have hne : ¬ (nz : Int) < (nz : Int) := by omega
        have hln := HLEN.out nz (Nat.le_refl _)
        rw [HK.out] at hln
        have HSO := hide (sort_any hm.out.own hm.out.bel.size (by omega))
        have KM := hide hm.out.bel
        rw [HSRT.out] at HSO
        clear hm
        go_wp2_with fail
        refine HSO.out.mono ?_
        rintro e w5 ⟨rfl, ho5, hb5⟩
        have HO5 := hide ho5
        have K5 := hide (KO.on K2.out (Below.trans KM.out hb5))
        clear ho5 hb5 HSO
        go_wp2
        go_ret2
        obtain ⟨a, c, e1, hr⟩ := row_any HO5.out
        exact ⟨a, c, by rw [e1]; rfl, hr, K5.out⟩
end Go.Proofs.Ytmcbldllbnjipaa
