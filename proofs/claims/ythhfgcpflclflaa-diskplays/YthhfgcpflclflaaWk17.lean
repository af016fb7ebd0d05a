/- The chapter's examples. -/
import Derived.Test.YthhfgcpflclflaaOd17
namespace Go.Proofs.Ythhfgcpflclflaa
open Go.RowKit
set_option linter.unusedVariables false
set_option maxHeartbeats 1000000
set_option maxRecDepth 100000
/-- A write that is taken. -/
theorem WR_ok {d : Dk.Ds} {n : Int} {b : List Int} (h1 : Dk.has d n) (h2 : b.length = 64) (h3 : d.left ≠ 0) : Dk.WR d n b = (Dk.tick { d with waits := d.waits ++ [(n.toNat, b)] }, 0) := by
  unfold Dk.WR
  rw [if_neg (by simpa using h1), if_neg (by simpa using h2), if_neg h3]
theorem FL_ok {d : Dk.Ds} (h3 : d.left ≠ 0) : Dk.FL d = (Dk.tick { d with lies := Dk.fw d.waits d.lies d.waits.length, waits := [] }, 0) := by
  unfold Dk.FL
  rw [if_neg h3]
/-- The disks of the examples. -/
def X1 : Dk.Ds := (Dk.WR (Dk.NW 2) 1 (List.replicate 64 7)).1
theorem X1_c : (Dk.WR (Dk.NW 2) 1 (List.replicate 64 7)).2 = 0 := by decide +kernel
theorem X1_b : (Dk.RD (Dk.CR X1 [3]) 1).1.length = 64 ∧ (Dk.RD (Dk.CR X1 [3]) 1).2 = 0 ∧ (Dk.RD (Dk.CR X1 [3]) 1).1.getD 2 0 = 7 ∧ (Dk.RD (Dk.CR X1 [3]) 1).1.getD 3 0 = 0 := by decide +kernel
theorem X1_f : (Dk.FL X1).2 = 0 ∧ (Dk.FL X1).1.steps = 2 := by decide +kernel
theorem works17_any (w : World) : Calls Try.prog 12 #[] w fun e w' => e = .returned (.bool true) ∧ KO w w' := by
  have HN := hide (onew_ok w 2 (by omega) (by omega))
  go_enter Try.func12, Try.ntmps12
  go_wp2_with fail
  refine HN.out.mono ?_
  rintro e w1 ⟨g, rfl, ho, hk⟩
  have HF := hide (filled_any w1 7 (by omega))
  have O1 := hide ho
  have K1 := hide hk
  clear ho hk HN
  go_wp2_with fail
  refine HF.out.mono ?_
  rintro e w2 ⟨rfl, hnr⟩
  have O2 := hide (O1.out.ko hnr.bel)
  have K2 := hide (KO.on K1.out hnr.bel)
  have HW := hide (owrite_any O2.out (Bd.nw (by omega)) (by omega) 1 _ _ _ _ hnr.row (by decide))
  rw [X1_c, show (Dk.WR (Dk.NW 2) 1 (List.replicate 64 7)).1 = X1 from rfl] at HW
  have HM2 := hide K1.out.size
  clear hnr HF
  go_wp2_with fail
  refine HW.out.mono ?_
  rintro e w3 ⟨rfl, h3, hm3⟩
  have O3 := hide (h3.mono (G := fun k => w.heap.size ≤ k) fun k _ q => by
    rcases q with q | q
    · exact q
    · have := K2.out.size; omega)
  have K3 := hide (K2.out.trans (hm3.below (B := w.heap.size) K2.out.size fun k q => q))
  clear h3 hm3 HW
  have K4 := hide (KO.alloc (KO.refl w3) (.cells #[.int .i64 3] 3))
  have HC := hide (ocrash_any (O3.out.ko K4.out) ((Bd.nw (by omega)).wr 1 _) _ _ _ _ (row_lit .i64 w3 [3] 3 (by simp [maxLen])))
  go_wp2_with fail
  refine HC.out.mono ?_
  rintro e w5 ⟨x, rfl, h5, hk5⟩
  have O5 := hide h5
  have P5 := hide (O3.out.ko (KO.on K4.out hk5))
  have K5 := hide (KO.on K3.out (KO.on K4.out hk5))
  clear h5 hk5 HC
  have HR := hide (oread_any O5.out 1)
  go_wp2_with fail
  refine HR.out.mono ?_
  rintro e w6 ⟨a, c, rfl, hr, hk6, _⟩
  obtain ⟨e1, e2, e3, e4⟩ := X1_b
  have hrc := hr.cells
  rw [e1] at hrc
  obtain ⟨b0, o0, rfl, hb0, hcs⟩ := hrc (by omega)
  have q2 := hcs 2 (by omega)
  have q3 := hcs 3 (by omega)
  rw [e3] at q2
  rw [e4] at q3
  rw [e1, e2]
  have K6 := hide (KO.on K5.out hk6)
  have HF6 := hide (oflush_any (P5.out.ko hk6) ((Bd.nw (by omega)).wr 1 _) (by omega))
  clear hr hk6 HR hrc hcs e1 e2 e3 e4
  rw [X1_f.1] at HF6
  go_wp2_with fail
  refine HF6.out.mono ?_
  rintro e w7 ⟨rfl, h7, hm7⟩
  have HS7 := hide (osteps_any h7)
  rw [X1_f.2] at HS7
  have K7 := hide (K6.out.trans (hm7.below (B := w.heap.size) K6.out.size fun k q => q))
  clear h7 hm7 HF6 q2 q3
  go_wp2_with fail
  refine HS7.out.mono ?_
  rintro e w8 ⟨rfl, rfl⟩
  go_wp2
  go_ret
  exact ⟨rfl, K7.out⟩
end Go.Proofs.Ythhfgcpflclflaa
