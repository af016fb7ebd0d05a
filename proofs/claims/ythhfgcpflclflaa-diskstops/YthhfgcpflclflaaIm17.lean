/- All that is read of a disk. -/
import Derived.Test.YthhfgcpflclflaaOd17
namespace Go.Proofs.Ythhfgcpflclflaa
open Go.RowKit
set_option linter.unusedVariables false
set_option maxHeartbeats 1000000
set_option maxRecDepth 100000
/-- What is read of the first k sectors; of all. -/
def IMk (d : Dk.Ds) (k : Nat) : List Int := (List.range k).flatMap fun (n : Nat) => (Dk.RD d (n : Int)).1
def IM (d : Dk.Ds) : List Int := IMk d d.lies.length
theorem IMk_succ (d : Dk.Ds) (k : Nat) : IMk d (k + 1) = IMk d k ++ (Dk.RD d (k : Int)).1 := by
  simp [IMk, List.range_succ]
/-- What is read of two disks of which the same lies and nothing waits. -/
theorem IM_same {d e : Dk.Ds} (h1 : d.lies = e.lies) (h2 : d.waits = e.waits) (h3 : d.left ≠ 0) (h4 : e.left ≠ 0) : IM d = IM e := by
  unfold IM IMk
  rw [h1]
  congr 1
  funext n
  show (Dk.RD d (n : Int)).1 = (Dk.RD e (n : Int)).1
  by_cases hh : Dk.has d (n : Int)
  · have hh2 : Dk.has e (n : Int) := by unfold Dk.has at hh ⊢; rw [← h1]; exact hh
    unfold Dk.RD
    rw [if_neg (not_not_intro hh), if_neg h3, if_neg (not_not_intro hh2), if_neg h4, h1, h2]
  · have hh2 : ¬ Dk.has e (n : Int) := by unfold Dk.has at hh ⊢; rw [← h1]; exact hh
    unfold Dk.RD
    rw [if_pos hh, if_pos hh2]
theorem IM_len {d : Dk.Ds} (hw : Dk.Wf d) (h : d.left ≠ 0) : ∀ k, k ≤ d.lies.length → (IMk d k).length = k * 64
  | 0, _ => rfl
  | k + 1, hk => by
    rw [IMk_succ, List.length_append, IM_len hw h k (by omega)]
    have hh : Dk.has d (k : Int) := by unfold Dk.has; omega
    have : (Dk.RD d (k : Int)).1.length = 64 := by
      unfold Dk.RD
      rw [if_neg (by simpa using hh), if_neg h]
      exact (Dk.rw_sec (hw.lies _ (Dk.lie_at (by simp; omega))) hw.waits _ (Nat.le_refl _)).1
    omega
theorem RD_le {d : Dk.Ds} (hw : Dk.Wf d) (n : Int) : (Dk.RD d n).1.length ≤ 64 := by
  unfold Dk.RD
  split
  · exact Nat.zero_le _
  · split
    · exact Nat.zero_le _
    · rename_i hn _
      have hn : Dk.has d n := Classical.byContradiction hn
      unfold Dk.has at hn
      exact Nat.le_of_eq (Dk.rw_sec (hw.lies _ (Dk.lie_at (by omega))) hw.waits _ (Nat.le_refl _)).1
theorem IM_le {d : Dk.Ds} (hw : Dk.Wf d) : ∀ k, (IMk d k).length ≤ k * 64
  | 0 => Nat.le_refl _
  | k + 1 => by
    have := IM_le hw k
    have := RD_le hw (k : Int)
    rw [IMk_succ, List.length_append]
    omega
theorem oimage_any {F : Nat → Prop} {w : World} {g : Nat} {d : Dk.Ds} {j : Nat} (h : OD F w g d) (hb : Bd d j) :
    Calls Try.prog 24 #[.pointer (some ⟨g, 0, none⟩)] w fun e w' => e = .returned (.string (str (IM d))) ∧ KO w w' := by
  have hl := hb.lies
  have H := hide h
  have HI0 : Hid (str (IMk d 0) = .empty) := hide rfl
  have HIM : Hid (IM d = IMk d d.lies.length) := hide rfl
  have HSU := hide (IMk_succ d)
  clear h hb
  go_enter Try.func24, Try.ntmps24
  go_wp2
  go_loopw [3, 4, 5, 6] (fun s3 s4 _ _ wr => ∃ k : Nat, k ≤ d.lies.length ∧ s4 = .int .i64 (k : Int) ∧ s3 = .string (str (IMk d k)) ∧ KO w wr) (fun _ s4 _ _ _ => d.lies.length - (intOf s4).toNat)
  case atStart => exact ⟨0, Nat.zero_le _, rfl, by rw [HI0.out]; rfl, KO.refl _⟩
  case round =>
    obtain ⟨k, hk, rfl, rfl, hko⟩ := hrel
    have HK := hide hko
    have HS := hide (osectors_any (H.out.ko hko))
    have HR := hide (oread_any (H.out.ko hko) (k : Int))
    have HBY := hide (RD_bytes H.out.wf (k : Int))
    have HX := hide (HSU.out k)
    clear hko
    generalize hML : d.lies.length = ml at *
    by_cases hlt : k < ml
    · have hin : (k : Int) < (ml : Int) := by omega
      go_wp2_with fail
      refine HS.out.mono ?_
      rintro e w1 ⟨rfl, rfl⟩
      go_wp2_with fail
      refine HR.out.mono ?_
      rintro e w1 ⟨a, c, rfl, hr, hk1, _⟩
      have hst := run_str w1 a _ c _ hr HBY.out
      have HK1 := hide (KO.on HK.out hk1)
      have hsum : (str (IMk d k)).size + (str (Dk.RD d (k : Int)).1).size ≤ 9223372036854775807 := by
        have h1 := IM_le H.out.wf k
        have h2 := RD_le H.out.wf (k : Int)
        rw [str_size, str_size]
        omega
      generalize (Dk.RD d (k : Int)).1.length = nn at *
      generalize (Dk.RD d (k : Int)).1 = bs at *
      clear hr hk1
      go_wp2
      go_roundw
      case rel => exact ⟨k + 1, by omega, by go_num, by rw [HX.out, str_append], HK1.out⟩
      case measure => simp [intOf]; omega
    · obtain rfl : k = ml := by omega
      go_wp2_with fail
      refine HS.out.mono ?_
      rintro e w1 ⟨rfl, rfl⟩
      go_wp2
      go_ret
      exact ⟨by rw [HIM.out]; rfl, HK.out⟩
end Go.Proofs.Ythhfgcpflclflaa
