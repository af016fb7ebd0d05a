/- The document's Columns, by contract. -/
import Derived.Test.YtbbhefiibcbbfaaOo
import Derived.Test.YtbbhefiibcbbfaaNew
namespace Go.Proofs.Ytbbhefiibcbbfaa
open Go.RowKit
set_option linter.unusedVariables false
set_option maxHeartbeats 1000000
set_option maxRecDepth 100000
theorem rcols_arg (ao : Option Addr) (m cap : Nat) (n : Int) (w : World) (hn : n < 0 ∨ 4096 < n) :
    Calls Try.prog 22 #[.slice ao m cap, .int .i64 n] w fun e w' => e = .returned (.tuple #[.slice none 0 0, .int .i64 2]) ∧ w = w' := by
  rcases hn with hn | hn
  · go_enter Try.func22, Try.ntmps22
    go_wp2
    go_ret2
    exact ⟨rfl, rfl⟩
  · have hn0 : ¬ n < 0 := by omega
    go_enter Try.func22, Try.ntmps22
    go_wp2
    go_ret2
    exact ⟨rfl, rfl⟩
theorem rcols_ok (ao : Option Addr) (m cap n : Nat) (o : List Int) (w : World) (h : Row .i64 w ao m cap o) (hn : n ≤ 4096) :
    Calls Try.prog 22 #[.slice ao m cap, .int .i64 (n : Int)] w fun e w' =>
      ((¬ Od.Orderly o n m ∧ e = .returned (.tuple #[.slice none 0 0, .int .i64 50])) ∨
       (Od.Orderly o n m ∧ ∃ g, e = .returned (.tuple #[.slice (some ⟨g, 0, none⟩) n n, .int .i64 0]) ∧ w'.ownsRow w.heap.size 3 1 (.slice (some ⟨g, 0, none⟩) n n) n ((Od.CO o n m).map (Value.int .i64)))) ∧ KO w w' := by
  have hmx : m ≤ maxLen := Nat.le_trans h.le h.max
  unfold maxLen at hmx
  have H := hide h
  have HL := hide h.len
  obtain ⟨ii, hii, hy0, hy1, hy2⟩ := info_parts infoInt
  have HII : Hid (Try.prog.info? 3 = some ii) := hii
  have HY0 := hide hy0
  have HY1 := hide hy1
  have HY2 := hide hy2
  have hn0 : ¬ (n : Int) < 0 := by omega
  have hn1 : ¬ (4096 : Int) < (n : Int) := by omega
  clear h hii hy0 hy1 hy2
  go_enter Try.func22, Try.ntmps22
  go_wp2
  go_loopw [6, 7] (fun s6 s7 W => ∃ k : Nat, s6 = .int .i64 (k : Int) ∧ k ≤ m ∧ Hid (Od.Orderly o n k) ∧ Hid (∃ q, W = w.drewN q)) (fun s6 _ _ => m - (intOf s6).toNat)
  case atStart => exact ⟨0, rfl, Nat.zero_le _, hide Od.Orderly.zero, hide ⟨0, rfl⟩⟩
  case round =>
    obtain ⟨k, rfl, hk, hor, hq⟩ := hrel
    have HK := hide (below_of_drewN hq.out)
    by_cases hlt : k < m
    · obtain ⟨b, off, rfl, hbl, hc⟩ := H.out.cells (by omega)
      have HC : Hid (∀ W, KO w W → ∀ j, j < m → W.cell? ⟨b, off + j, none⟩ = some (.int .i64 (o.getD j 0))) := hide (fun W hk2 j hj => (Below.cell hk2 (by exact hbl)).trans (hc j (by rw [HL.out]; exact hj)))
      have ck := HC.out _ HK.out k hlt
      have hin : (k : Int) < (m : Int) := by omega
      clear hc
      by_cases h1 : o.getD k 0 < 0
      · have HN : Hid (¬ Od.Orderly o n m) := hide (fun q => by have := (q.range k hlt).1; omega)
        generalize o.getD k 0 = x at ck h1
        go_wp2
        go_ret2
        exact ⟨.inl ⟨HN.out, rfl⟩, HK.out⟩
      · by_cases h2 : (n : Int) ≤ o.getD k 0
        · have HN : Hid (¬ Od.Orderly o n m) := hide (fun q => by have := (q.range k hlt).2; omega)
          generalize o.getD k 0 = x at ck h1 h2
          go_wp2
          go_ret2
          exact ⟨.inl ⟨HN.out, rfl⟩, HK.out⟩
        · have HRG : Hid (0 ≤ o.getD k 0 ∧ o.getD k 0 < (n : Int)) := hide ⟨by omega, by omega⟩
          generalize hx : o.getD k 0 = x at ck h1 h2
          have HX := hide hx
          clear hx
          go_wp2
          clear ck HK
          go_loopw [7] (fun s7 W => ∃ j : Nat, s7 = .int .i64 (j : Int) ∧ j ≤ k ∧ Hid (∀ i, i < j → ¬ o.getD i 0 = o.getD k 0) ∧ Hid (∃ q, W = w.drewN q)) (fun s7 _ => k - (intOf s7).toNat)
          case atStart => exact ⟨0, rfl, Nat.zero_le _, hide (fun i hi => absurd hi (Nat.not_lt_zero _)), hq⟩
          case round =>
            clear hq
            obtain ⟨j, rfl, hj, hall, hq⟩ := hrel
            have HK := hide (below_of_drewN hq.out)
            by_cases hlt2 : j < k
            · have cj := HC.out _ HK.out j (by omega)
              have ck := HC.out _ HK.out k hlt
              rw [HX.out] at ck
              have hin2 : (j : Int) < (k : Int) := by omega
              have hin3 : (j : Int) < (m : Int) := by omega
              by_cases he : o.getD j 0 = x
              · have HN : Hid (¬ Od.Orderly o n m) := hide (fun q => q.once j k hlt2 hlt (by rw [he, HX.out]))
                have heb : (x == x) = true := by simp
                rw [he] at cj
                clear hall he
                go_wp2_with fail
                go_quiet (fail)
                go_wp2
                go_ret2
                exact ⟨.inl ⟨HN.out, rfl⟩, KO.on HK.out (below_of_drewN ⟨_, rfl⟩)⟩
              · have HA : Hid (∀ i, i < j + 1 → ¬ o.getD i 0 = o.getD k 0) := hide (fun i hi => by
                  by_cases e : i = j
                  · subst e; rw [HX.out]; exact he
                  · exact hall.out i (by omega))
                have heb : (o.getD j 0 == x) = false := beq_eq_false_iff_ne.2 he
                clear hall
                generalize o.getD j 0 = y at cj he heb
                go_wp2_with fail
                go_quiet (fail)
                go_wp2
                go_roundw
                case rel => exact ⟨j + 1, by go_num, by omega, HA, hide (by obtain ⟨q, e⟩ := hq.out; exact ⟨_, by rw [e]; exact World.drewN_drewN _ _ _⟩)⟩
                case measure => simp [intOf]; omega
            · obtain rfl : j = k := by omega
              have hne2 : ¬ (j : Int) < (j : Int) := by omega
              have HOR := hide (hor.out.succ HRG.out hall.out)
              clear hor hall
              go_wp2
              go_roundw
              case rel => exact ⟨j + 1, by go_num, by omega, HOR, hq⟩
              case measure => simp [intOf]; omega
    · obtain rfl : m = k := by omega
      have hne : ¬ (m : Int) < (m : Int) := by omega
      go_wp2_with (at_make; refine wpList_make_full _ rfl _ _ 22 rfl wr.heap.size 3 ii (.int .i64 0) 1 Try.underlying22 HII.out HY0.out HY1.out _ _ _ _ n rfl rfl rfl rfl ?b2 ?b3 (Nat.le_refl _) ?_)
      case b2 => rw [HY2.out]; omega
      case b3 => unfold maxLen; omega
      intro w1 hown hgrow
      have hws : wr.heap.size = w.heap.size := by obtain ⟨q, e⟩ := hq.out; rw [e]; rfl
      rw [hws] at hown
      have hbel := (HK.out).grown hgrow HK.out.size (fun _ h => by cases h)
      have HO : Hid (NR .i64 3 w n (FL (fun _ => -1) n 0) w1) := hide (NR.made (by simpa using hown) hbel _)
      rw [hws]
      clear hown hgrow hbel hq HK hws
      go_wp2
      go_loopw [9] (fun s9 W => ∃ i : Nat, s9 = .int .i64 (i : Int) ∧ i ≤ n ∧ Hid (NR .i64 3 w n (FL (fun _ => -1) n i) W)) (fun s9 _ => n - (intOf s9).toNat)
      case atStart => exact ⟨0, rfl, Nat.zero_le _, HO⟩
      case round =>
        obtain ⟨i, rfl, hi, hm⟩ := hrel
        by_cases hlt2 : i < n
        · have hin2 : (i : Int) < (n : Int) := by omega
          have co := hm.out.cell hlt2
          have fo := hm.out.fz i
          have hset := hm.out.set i (-1)
          rw [FL_set (fun _ => -1) n i] at hset
          have HM := hide hset
          generalize (FL (fun _ => -1) n i).getD i 0 = old at co
          clear hm hset
          go_wp2
          go_roundw
          case rel => exact ⟨i + 1, by go_num, by omega, HM⟩
          case measure => simp [intOf]; omega
        · obtain rfl : n = i := by omega
          have hne2 : ¬ (n : Int) < (n : Int) := by omega
          have HM := hide (show NR .i64 3 w n (Od.CO o n 0) wr from by
            have := hm.out
            rw [FL_end, List.map_const', List.length_range, ← Od.CO_zero o n] at this
            exact this)
          clear hm
          go_wp2
          go_loopw [10] (fun s10 W => ∃ k : Nat, s10 = .int .i64 (k : Int) ∧ k ≤ m ∧ Hid (NR .i64 3 w n (Od.CO o n k) W)) (fun s10 _ => m - (intOf s10).toNat)
          case atStart => exact ⟨0, rfl, Nat.zero_le _, HM⟩
          case round =>
            clear HM
            obtain ⟨k, rfl, hk2, hm⟩ := hrel
            by_cases hlt3 : k < m
            · have hin3 : (k : Int) < (m : Int) := by omega
              obtain ⟨b, off, rfl, hbl, hc⟩ := H.out.cells (by omega)
              have ck := (Below.cell hm.out.bel (by exact hbl)).trans (hc k (by rw [HL.out]; exact hlt3))
              have hrg := hor.out.range k hlt3
              obtain ⟨d, hd⟩ := Int.eq_ofNat_of_zero_le hrg.1
              have hdn : d < n := by omega
              have hin4 : (d : Int) < (n : Int) := by omega
              have hput := Od.CO_put (o := o) (n := n) (k := k) hrg
              have hset := hm.out.set (o.getD k 0).toNat (k : Int)
              rw [hput] at hset
              have e1 : (o.getD k 0).toNat = d := by rw [hd]; exact Int.toNat_natCast d
              rw [e1] at hset
              have HM := hide hset
              have co := hm.out.cell hdn
              have fo := hm.out.fz d
              rw [hd] at ck
              generalize (Od.CO o n k).getD d 0 = old at co
              clear hm hset hput e1 hd hrg hc
              go_wp2
              go_roundw
              case rel => exact ⟨k + 1, by go_num, by omega, HM⟩
              case measure => simp [intOf]; omega
            · obtain rfl : m = k := by omega
              have hne3 : ¬ (m : Int) < (m : Int) := by omega
              go_wp2
              go_ret2
              exact ⟨.inr ⟨hor.out, _, rfl, hm.out.own⟩, hm.out.bel⟩
end Go.Proofs.Ytbbhefiibcbbfaa
