/- The law DiskNobody: disks that are nil, or that no call made. -/
import Derived.Test.YthhfgcpflclflaaNb17
import Derived.Test.YthhfgcpflclflaaAc17
namespace Go.Proofs.Ythhfgcpflclflaa
open Go.RowKit
set_option linter.unusedVariables false
set_option maxHeartbeats 2000000
set_option maxRecDepth 100000
theorem build_zero17 (w : World) : (Instr.build 42 #[]).run Try.prog w = .ok (.agg #[.slice none 0 0, .slice none 0 0, .int .i64 0, .bool false, .int .i64 0]) w := run_build w 42 _ _ (by kernel_rfl)
/-- The two of them, as the law lists them. -/
def pq17 (w : World) (k : Nat) : Option Addr := if k = 0 then none else some ⟨w.heap.size + 1, 0, none⟩
/-- What the law's loop keeps. -/
structure NB17 (w : World) (x : A17) (wr : World) : Prop where
  c1 : wr.cell? ⟨w.heap.size, 1, none⟩ = some (.int .i64 x.n)
  c2 : wr.cell? ⟨w.heap.size, 2, none⟩ = some (.int .i64 x.at')
  c3 : wr.cell? ⟨w.heap.size, 3, none⟩ = some (.slice x.ab x.nb x.cb)
  c4 : wr.cell? ⟨w.heap.size, 4, none⟩ = some (.slice x.ak x.nk x.ck)
  arr : ∀ k, k < 2 → wr.cell? ⟨w.heap.size + 1 + 1, k, none⟩ = some (.pointer (pq17 w k))
  bad : ∀ k, k < 2 → Bad17 wr (pq17 w k)
  bel : KO w wr
theorem NB17.ko {w wr w' : World} {x : A17} (h : NB17 w x wr) (hk : KO wr w') : NB17 w x w' :=
  have f : ∀ {a : Addr} {v : Value}, wr.cell? a = some v → w'.cell? a = some v := fun hv => (Below.cell hk (World.block_lt_of_cell? wr _ hv)).trans hv
  ⟨f h.c1, f h.c2, f h.c3, f h.c4, fun k hk2 => f (h.arr k hk2), fun k hk2 => (h.bad k hk2).ko hk, KO.on h.bel hk⟩
theorem nb17_start (w : World) (x : A17) : NB17 w x (((w.alloc (.cells #[.int .i64 x.kd, .int .i64 x.n, .int .i64 x.at', .slice x.ab x.nb x.cb, .slice x.ak x.nk x.ck] 36)).alloc (.cells #[.slice none 0 0, .slice none 0 0, .int .i64 0, .bool false, .int .i64 0] 42)).alloc (.cells #[.pointer none, .pointer (some ⟨w.heap.size + 1, 0, none⟩)] 23)) := by
  obtain ⟨A, hA⟩ : ∃ A, w.alloc (.cells #[.int .i64 x.kd, .int .i64 x.n, .int .i64 x.at', .slice x.ab x.nb x.cb, .slice x.ak x.nk x.ck] 36) = A := ⟨_, rfl⟩
  have sA : A.heap.size = w.heap.size + 1 := by rw [← hA]; simp
  have fA : ∀ j, A.cell? ⟨w.heap.size, j, none⟩ = (#[.int .i64 x.kd, .int .i64 x.n, .int .i64 x.at', .slice x.ab x.nb x.cb, .slice x.ak x.nk x.ck] : Array Value)[j]? := fun j => by rw [← hA, World.cell?_alloc_mark]
  have kA : KO w A := by rw [← hA]; exact KO.alloc (KO.refl _) _
  rw [hA]
  clear hA
  obtain ⟨B, hB⟩ : ∃ B, A.alloc (.cells #[.slice none 0 0, .slice none 0 0, .int .i64 0, .bool false, .int .i64 0] 42) = B := ⟨_, rfl⟩
  have sB : B.heap.size = w.heap.size + 1 + 1 := by rw [← hB]; simp; omega
  have fB : B.cell? ⟨w.heap.size + 1, 0, none⟩ = some (.slice none 0 0) := by rw [← hB, ← sA, World.cell?_alloc_mark]; rfl
  have kB : KO A B := by rw [← hB]; exact KO.alloc (KO.refl _) _
  rw [hB]
  clear hB
  obtain ⟨C, hC⟩ : ∃ C, B.alloc (.cells #[.pointer none, .pointer (some ⟨w.heap.size + 1, 0, none⟩)] 23) = C := ⟨_, rfl⟩
  have fC : ∀ j, C.cell? ⟨w.heap.size + 1 + 1, j, none⟩ = (#[.pointer none, .pointer (some ⟨w.heap.size + 1, 0, none⟩)] : Array Value)[j]? := fun j => by rw [← hC, ← sB, World.cell?_alloc_mark]
  have kC : KO B C := by rw [← hC]; exact KO.alloc (KO.refl _) _
  rw [hC]
  clear hC
  have g : ∀ {a : Addr} {v : Value}, A.cell? a = some v → C.cell? a = some v := fun hv => (Below.cell (KO.on kB kC) (World.block_lt_of_cell? A _ hv)).trans hv
  refine ⟨g (fA 1), g (fA 2), g (fA 3), g (fA 4), fun k hk => ?_, fun k hk => ?_, KO.on kA (KO.on kB kC)⟩
  · rw [fC]
    have : k = 0 ∨ k = 1 := by omega
    rcases this with rfl | rfl <;> rfl
  · have : k = 0 ∨ k = 1 := by omega
    rcases this with rfl | rfl
    · exact bad_nil _
    · exact (bad_zero B _ fB).ko kC
theorem DiskNobody_walk (w : World) (x : A17) (hx : Good17 w x) :
    Calls Try.prog 4 #[.agg #[.int .i64 x.kd, .int .i64 x.n, .int .i64 x.at', .slice x.ab x.nb x.cb, .slice x.ak x.nk x.ck]] w fun e w' => e = .returned (.bool true) ∧ Below w.heap.size w w' := by
  have hbz := build_zero17
  have HS0 := hide (nb17_start w x)
  obtain ⟨W, hW⟩ : ∃ W, ((w.alloc (.cells #[.int .i64 x.kd, .int .i64 x.n, .int .i64 x.at', .slice x.ab x.nb x.cb, .slice x.ak x.nk x.ck] 36)).alloc (.cells #[.slice none 0 0, .slice none 0 0, .int .i64 0, .bool false, .int .i64 0] 42)).alloc (.cells #[.pointer none, .pointer (some ⟨w.heap.size + 1, 0, none⟩)] 23) = W := ⟨_, rfl⟩
  have HW := hide hW
  rw [hW] at HS0
  clear hx hW
  go_enter Try.func4, Try.ntmps4
  go_wp2_with fail
  rw [HW.out]
  clear hbz
  go_loopw [4, 5, 6, 7, 8, 13] (fun _ _ _ _ _ s13 wr => ∃ k : Nat, k ≤ 2 ∧ s13 = .int .i64 (k : Int) ∧ Hid (NB17 w x wr)) (fun _ _ _ _ _ s13 _ => 2 - (intOf s13).toNat)
  case atStart => exact ⟨0, by omega, rfl, HS0⟩
  case round =>
    obtain ⟨k, hk, rfl, hN⟩ := hrel
    by_cases hlt : k < 2
    · have e1 : (k : Int) < 2 := by omega
      have q0 := hN.out.arr k hlt
      have q1 := hN.out.c1
      obtain ⟨p, hp⟩ : ∃ p, pq17 w k = p := ⟨_, rfl⟩
      rw [hp] at q0
      have HP := hide hp
      have N0 := hide hN.out
      have HBD := hide (fun w' (h : NB17 w x w') => hp ▸ h.bad k hlt)
      have HR := hide (nread_any wr p (HBD.out _ N0.out) x.n)
      clear hp hN
      go_wp2_with fail
      refine HR.out.mono ?_
      rintro e w1 ⟨rfl, hk1⟩
      have N1 := hide (N0.out.ko hk1)
      have HC := hide (ncrash_any w1 p (HBD.out _ N1.out) x.ak x.nk x.ck)
      have q4 := N1.out.c4
      clear hk1 q0 q1
      go_wp2_with fail
      refine HC.out.mono ?_
      rintro e w2 ⟨rfl, hk2⟩
      have N2 := hide (N1.out.ko hk2)
      have HWr := hide (nwrite_any w2 p (HBD.out _ N2.out) x.n x.ab x.nb x.cb)
      have q1 := N2.out.c1
      have q3 := N2.out.c3
      clear hk2 q4
      go_wp2_with fail
      refine HWr.out.mono ?_
      rintro e w3 ⟨rfl, hk3⟩
      have N3 := hide (N2.out.ko hk3)
      have HF := hide (nflush_any w3 p (HBD.out _ N3.out))
      clear hk3 q1 q3
      go_wp2_with fail
      refine HF.out.mono ?_
      rintro e w4 ⟨rfl, hk4⟩
      have N4 := hide (N3.out.ko hk4)
      have HST := hide (nstop_any w4 p (HBD.out _ N4.out) x.n)
      have q1 := N4.out.c1
      clear hk4
      go_wp2_with fail
      refine HST.out.mono ?_
      rintro e w5 ⟨rfl, hk5⟩
      have N5 := hide (N4.out.ko hk5)
      have HSP := hide (nspoil_any w5 p (HBD.out _ N5.out) x.n x.at' 1)
      clear q1
      have q1 := N5.out.c1
      have q2 := N5.out.c2
      clear hk5
      go_wp2_with fail
      refine HSP.out.mono ?_
      rintro e w6 ⟨rfl, hk6⟩
      have N6 := hide (N5.out.ko hk6)
      have HSE := hide (nsectors_any w6 p (HBD.out _ N6.out))
      clear hk6 q1 q2
      go_wp2_with fail
      refine HSE.out.mono ?_
      rintro e w7 ⟨rfl, hk7⟩
      have N7 := hide (N6.out.ko hk7)
      have HWA := hide (nwaits_any w7 p (HBD.out _ N7.out))
      clear hk7
      go_wp2_with fail
      refine HWA.out.mono ?_
      rintro e w8 ⟨rfl, hk8⟩
      have N8 := hide (N7.out.ko hk8)
      have HSS := hide (nsteps_any w8 p (HBD.out _ N8.out))
      clear hk8
      go_wp2_with fail
      refine HSS.out.mono ?_
      rintro e w9 ⟨rfl, hk9⟩
      have N9 := hide (N8.out.ko hk9)
      clear hk9
      go_wp2
      go_roundw
      case rel => exact ⟨k + 1, by omega, by go_num, N9⟩
      case measure => simp [intOf]; omega
    · obtain rfl : k = 2 := by omega
      have N0 := hide hN.out.bel
      clear hN
      go_wp2
      go_ret
      exact ⟨rfl, N0.out⟩
end Go.Proofs.Ythhfgcpflclflaa
