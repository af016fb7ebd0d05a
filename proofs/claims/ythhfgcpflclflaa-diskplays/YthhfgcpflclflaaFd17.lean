/- The law's sector of one byte; the names. -/
import Derived.Test.YthhfgcpflclflaaNew
namespace Go.Proofs.Ythhfgcpflclflaa
open Go.RowKit
set_option linter.unusedVariables false
set_option maxHeartbeats 1000000
set_option maxRecDepth 100000
theorem byteInfo : (Try.prog.info? 5).map (fun i => (i.zero, i.size, i.bytes)) = some (some (.int .u8 0), 1, 1) := by kernel_rfl
theorem names17_any (w : World) : Calls Try.prog 11 #[] w fun e w' => e = .returned (.bool true) ∧ w = w' := by
  go_enter Try.func11, Try.ntmps11
  go_wp2
  go_ret
  exact ⟨rfl, rfl⟩
theorem filled_any (w : World) (b : Int) (hb : 0 ≤ b ∧ b ≤ 255) :
    Calls Try.prog 25 #[.int .u8 b] w fun e w' => e = .returned (.slice (some ⟨w.heap.size, 0, none⟩) 64 64) ∧ NR .u8 5 w 64 (List.replicate 64 b) w' := by
  obtain ⟨ii, hii, hy0, hy1, hy2⟩ := info_parts byteInfo
  have HII : Hid (Try.prog.info? 5 = some ii) := hii
  have HY0 := hide hy0
  have HY1 := hide hy1
  have HY2 := hide hy2
  have HE : Hid (FL (fun _ => b) 64 64 = List.replicate 64 b) := hide (by
    rw [FL_end]
    apply List.ext_getElem
    · simp only [List.length_map, List.length_range, List.length_replicate]
    · intro i h1 h2
      rw [List.getElem_map, List.getElem_replicate])
  obtain ⟨N, hN⟩ : ∃ N : Nat, 64 = N := ⟨_, rfl⟩
  have HN := hide hN
  clear hii hy0 hy1 hy2 hN
  go_enter Try.func25, Try.ntmps25
  go_wp2_with (at_make; refine wpList_make_full _ rfl _ _ 33 rfl w.heap.size 5 ii (.int .u8 0) 1 Try.underlying33 HII.out HY0.out HY1.out _ _ _ _ 64 rfl rfl rfl rfl ?b2 ?b3 (Nat.le_refl _) ?_)
  case b2 => rw [HY2.out]; omega
  case b3 => unfold maxLen; omega
  intro w1 hown hgrow
  have hbel := (Below.refl w.heap.size w).grown hgrow (Nat.le_refl _) (fun _ h => by cases h)
  have HO : Hid (NR .u8 5 w N (FL (fun _ => b) N 0) w1) := hide (by have := NR.made (k := .u8) (e := 5) (n := 64) (by exact hown) hbel (fun _ => b); rw [← HN.out]; exact this)
  clear hown hgrow hbel
  go_wp2
  go_loopw [4, 8] (fun s4 s8 wr => ∃ k : Nat, k ≤ 64 ∧ s8 = .int .i64 (k : Int) ∧ Hid (NR .u8 5 w N (FL (fun _ => b) N k) wr)) (fun _ s8 _ => 64 - (intOf s8).toNat)
  case atStart => exact ⟨0, Nat.zero_le _, rfl, HO⟩
  case round =>
    obtain ⟨k, hk, rfl, hm⟩ := hrel
    by_cases hlt : k < 64
    · have hin : (k : Int) < 64 := by omega
      have co := hm.out.cell (j := k) (by rw [← HN.out]; exact hlt)
      have hfz := hm.out.fz k
      have hset := hm.out.set k b
      rw [FL_set (fun _ => b) N k] at hset
      have HM2 := hide hset
      generalize (FL (fun _ => b) N k).getD k 0 = old at co
      clear hset hm
      go_wp2
      go_roundw
      case rel => exact ⟨k + 1, by omega, by go_num, HM2⟩
      case measure => simp [intOf]; omega
    · obtain rfl : k = 64 := by omega
      have HM := hide (show NR .u8 5 w 64 (List.replicate 64 b) wr from by
        have := hm.out
        rw [← HN.out, HE.out] at this
        exact this)
      clear hm
      go_wp2
      go_ret
      exact ⟨rfl, HM.out⟩
end Go.Proofs.Ythhfgcpflclflaa
