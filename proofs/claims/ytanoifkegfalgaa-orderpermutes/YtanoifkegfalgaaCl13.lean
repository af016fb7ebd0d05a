/- Where places stand in an order: the program's. -/
import Derived.Test.YtanoifkegfalgaaRep
import Derived.Test.YtanoifkegfalgaaOo
namespace Go.Proofs.Ytanoifkegfalgaa
open Go.RowKit
set_option linter.unusedVariables false
set_option maxHeartbeats 1000000
set_option maxRecDepth 100000
theorem cols_arg (ao : Option Addr) (m cap : Nat) (n : Int) (w : World) (hn : n < 0 ∨ 4096 < n) :
    Calls Try.prog 15 #[.slice ao m cap, .int .i64 n] w fun e w' => e = .returned (.tuple #[.slice none 0 0, .int .i64 2]) ∧ w = w' := by
  rcases hn with hn | hn
  · go_enter Try.func15, Try.ntmps15
    go_wp2
    go_ret2
    exact ⟨rfl, rfl⟩
  · have hn0 : ¬ n < 0 := by omega
    go_enter Try.func15, Try.ntmps15
    go_wp2
    go_ret2
    exact ⟨rfl, rfl⟩
theorem cols_ok (ao : Option Addr) (m cap n : Nat) (o : List Int) (w : World) (h : Row .i64 w ao m cap o) (hn : n ≤ 4096) :
    Calls Try.prog 15 #[.slice ao m cap, .int .i64 (n : Int)] w fun e w' =>
      ((¬ Od.Orderly o n m ∧ e = .returned (.tuple #[.slice none 0 0, .int .i64 50])) ∨
       (Od.Orderly o n m ∧ ∃ g, e = .returned (.tuple #[.slice (some ⟨g, 0, none⟩) n n, .int .i64 0]) ∧ w'.ownsRow w.heap.size 3 1 (.slice (some ⟨g, 0, none⟩) n n) n ((Od.CO o n m).map (Value.int .i64)))) ∧ KO w w' := by
  have hmx : m ≤ maxLen := Nat.le_trans h.le h.max
  unfold maxLen at hmx
  have H := hide h
  have HL := hide h.len
  have hk1 : KO w (w.alloc (.cells #[.int .i64 (-1)] 3)) := KO.alloc (KO.refl w) _
  have HK1 := hide hk1
  have HR := hide (repeat_any n 1 (some ⟨w.heap.size, 0, none⟩) (-1) (w.alloc (.cells #[.int .i64 (-1)] 3)) (row_one w w.heap.size rfl (-1)) hn)
  obtain ⟨g, hg⟩ : ∃ g, (w.alloc (.cells #[.int .i64 (-1)] 3)).heap.size = g := ⟨_, rfl⟩
  have hgw : w.heap.size ≤ g := by rw [← hg]; exact hk1.size
  rw [hg] at HR
  have HGW := hide hgw
  clear h hk1 hg hgw
  go_enter Try.func15, Try.ntmps15
  go_wp2_with (go_at_call 28; refine HR.out.mono ?_; rintro e w1 ⟨rfl, ho1, hk1⟩)
  have HO : Hid (OW w.heap.size g n n (Od.CO o n 0) w w1) := hide ⟨by rw [Od.CO_zero]; exact owns_mono ho1 HGW.out, KO.on HK1.out hk1⟩
  clear ho1 hk1
  go_loopw [7, 8, 20] (fun s7 s8 s20 W => ∃ k : Nat, k ≤ m ∧ s20 = .int .i64 (k : Int) ∧ Hid (Od.Orderly o n k) ∧ Hid (OW w.heap.size g n n (Od.CO o n k) w W)) (fun _ _ s20 _ => m - (intOf s20).toNat)
  case atStart => exact ⟨0, Nat.zero_le _, rfl, hide Od.Orderly.zero, HO⟩
  case round =>
    obtain ⟨k, hk, rfl, hor, hm⟩ := hrel
    by_cases hlt : k < m
    · obtain ⟨b, off, rfl, hbl, hc⟩ := H.out.cells (by omega)
      have hkl : k < o.length := by rw [HL.out]; exact hlt
      have ck : wr.cell? ⟨b, off + k, none⟩ = some (.int .i64 (o.getD k 0)) := (hm.out.bel.cell (by exact hbl)).trans (hc k hkl)
      have hin : (k : Int) < (m : Int) := by omega
      clear hc
      by_cases h1 : o.getD k 0 < 0
      · have HN : Hid (¬ Od.Orderly o n m) := hide (fun q => by have := (q.range k hlt).1; omega)
        have HK := hide hm.out.bel
        generalize o.getD k 0 = x at ck h1
        clear hm
        go_wp2
        go_ret2
        exact ⟨.inl ⟨HN.out, rfl⟩, HK.out⟩
      · by_cases h2 : (n : Int) ≤ o.getD k 0
        · have HN : Hid (¬ Od.Orderly o n m) := hide (fun q => by have := (q.range k hlt).2; omega)
          have HK := hide hm.out.bel
          generalize o.getD k 0 = x at ck h1 h2
          clear hm
          go_wp2
          go_ret2
          exact ⟨.inl ⟨HN.out, rfl⟩, HK.out⟩
        · obtain ⟨d, hd⟩ := Int.eq_ofNat_of_zero_le (show 0 ≤ o.getD k 0 by omega)
          have hdn : d < n := by omega
          have cd := hm.out.cell (k := d) hdn
          rw [Od.CO_at hdn] at cd
          have fd := hm.out.own.frozenAt d
          have hin2 : (d : Int) < (n : Int) := by omega
          have hin4 : ¬ (d : Int) < 0 := by omega
          have hput := Od.CO_put (o := o) (n := n) (k := k) (by omega)
          rw [hd] at ck
          rcases Od.ps_is o (d : Int) k with ⟨e1, e2⟩ | ⟨j, e1, e2, e3⟩
          · rw [e1] at cd
            have HOR := hide (hor.out.succ (by omega) (fun i hi => by rw [hd]; exact e2 i hi))
            have hset := hm.out.set d (k : Int)
            rw [hd] at hput
            rw [show ((d : Int)).toNat = d from Int.toNat_natCast d] at hput
            rw [hput] at hset
            have HM := hide hset
            clear hm hor hset hput e1 e2 hd h1 h2
            go_wp2
            go_roundw
            case rel => exact ⟨k + 1, by omega, by go_num, HOR, HM⟩
            case measure => simp [intOf]; omega
          · rw [e2] at cd
            have HN : Hid (¬ Od.Orderly o n m) := hide (fun q => q.once j k e1 hlt (by rw [e3, hd]))
            have HK := hide hm.out.bel
            have hne : ((j : Int) != -1) = true := bne_iff_ne.2 (by omega)
            clear hm hor hput e1 e2 e3 hd h1 h2
            go_wp2
            go_ret2
            exact ⟨.inl ⟨HN.out, rfl⟩, HK.out⟩
    · obtain rfl : m = k := by omega
      have hne : ¬ (m : Int) < (m : Int) := by omega
      go_wp2
      go_ret2
      exact ⟨.inr ⟨hor.out, g, rfl, hm.out.own⟩, hm.out.bel⟩
end Go.Proofs.Ytanoifkegfalgaa
