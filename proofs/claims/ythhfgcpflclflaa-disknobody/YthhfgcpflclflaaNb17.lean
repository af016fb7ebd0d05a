/- Disks that are nil, or that no call made: what each call answers. -/
import Derived.Test.YthhfgcpflclflaaOd17
namespace Go.Proofs.Ythhfgcpflclflaa
open Go.RowKit
set_option linter.unusedVariables false
set_option maxHeartbeats 1000000
set_option maxRecDepth 100000
/-- It does not stand, now or later. -/
def Bad17 (w : World) (p : Option Addr) : Prop := ∀ W, KO w W → Calls Try.prog 36 #[.pointer p] W fun e w' => e = .returned (.bool false) ∧ W = w'
theorem Bad17.ko {w w' : World} {p : Option Addr} (h : Bad17 w p) (hk : KO w w') : Bad17 w' p := fun W hW => h W (KO.on hk hW)
theorem bad_nil (w : World) : Bad17 w none := fun W _ => by
  go_enter Try.func36, Try.ntmps36
  go_wp2
  go_ret
  exact ⟨rfl, rfl⟩
theorem bad_zero (w : World) (g : Nat) (hc : w.cell? ⟨g, 0, none⟩ = some (.slice none 0 0)) : Bad17 w (some ⟨g, 0, none⟩) := fun W hW => by
  have c0 : W.cell? ⟨g, 0, none⟩ = some (.slice none 0 0) := (Below.cell hW (World.block_lt_of_cell? w _ hc)).trans hc
  clear hc
  go_enter Try.func36, Try.ntmps36
  go_wp2
  go_ret
  exact ⟨rfl, rfl⟩
theorem nhas_any (w : World) (p : Option Addr) (h : Bad17 w p) (n : Int) : Calls Try.prog 33 #[.pointer p, .int .i64 n] w fun e w' => e = .returned (.int .i64 1) ∧ w = w' := by
  have HS := hide (h w (KO.refl _))
  clear h
  go_enter Try.func33, Try.ntmps33
  go_wp2_with fail
  refine HS.out.mono ?_
  rintro e w1 ⟨rfl, rfl⟩
  go_wp2
  go_ret
  exact ⟨rfl, rfl⟩

theorem nread_any (w : World) (p : Option Addr) (h : Bad17 w p) (n : Int) : Calls Try.prog 15 #[.pointer p, .int .i64 n] w fun e w' => e = .returned (.tuple #[.slice none 0 0, .int .i64 1]) ∧ KO w w' := by
  have HS := hide (nhas_any w p h n)
  clear h
  go_enter Try.func15, Try.ntmps15
  go_wp2_with fail
  refine HS.out.mono ?_
  rintro e w1 ⟨rfl, rfl⟩
  go_wp2
  go_ret2
  exact ⟨rfl, KO.refl _⟩
theorem ncrash_any (w : World) (p : Option Addr) (h : Bad17 w p) (ak : Option Addr) (nk ck : Nat) : Calls Try.prog 16 #[.pointer p, .slice ak nk ck] w fun e w' => e = .returned (.tuple #[.pointer none, .int .i64 1]) ∧ KO w w' := by
  have KA := hide (show KO w (w.alloc (.cells #[.slice ak nk ck] 34)) from KO.alloc (KO.refl w) _)
  have HS := hide (h _ KA.out)
  clear h
  go_enter Try.func16, Try.ntmps16
  go_wp2_with fail
  refine HS.out.mono ?_
  rintro e w1 ⟨rfl, rfl⟩
  go_wp2
  go_ret2
  exact ⟨rfl, KA.out⟩
theorem nwrite_any (w : World) (p : Option Addr) (h : Bad17 w p) (n : Int) (ab : Option Addr) (nb cb : Nat) : Calls Try.prog 17 #[.pointer p, .int .i64 n, .slice ab nb cb] w fun e w' => e = .returned (.int .i64 1) ∧ KO w w' := by
  have HS := hide (nhas_any w p h n)
  clear h
  go_enter Try.func17, Try.ntmps17
  go_wp2_with fail
  refine HS.out.mono ?_
  rintro e w1 ⟨rfl, rfl⟩
  go_wp2
  go_ret
  exact ⟨rfl, KO.refl _⟩
theorem nflush_any (w : World) (p : Option Addr) (h : Bad17 w p)  : Calls Try.prog 18 #[.pointer p] w fun e w' => e = .returned (.int .i64 1) ∧ KO w w' := by
  have KA := hide (show KO w (w.alloc (.cells #[.pointer p] 23)) from KO.alloc (KO.refl w) _)
  have HS := hide (h _ KA.out)
  clear h
  go_enter Try.func18, Try.ntmps18
  go_wp2_with fail
  refine HS.out.mono ?_
  rintro e w1 ⟨rfl, rfl⟩
  go_wp2
  go_ret
  exact ⟨rfl, KA.out⟩
theorem nstop_any (w : World) (p : Option Addr) (h : Bad17 w p) (n : Int) : Calls Try.prog 19 #[.pointer p, .int .i64 n] w fun e w' => e = .returned (.int .i64 1) ∧ KO w w' := by
  have HS := hide (h w (KO.refl _))
  clear h
  go_enter Try.func19, Try.ntmps19
  go_wp2_with fail
  refine HS.out.mono ?_
  rintro e w1 ⟨rfl, rfl⟩
  go_wp2
  go_ret
  exact ⟨rfl, KO.refl _⟩
theorem nspoil_any (w : World) (p : Option Addr) (h : Bad17 w p) (n a b : Int) : Calls Try.prog 20 #[.pointer p, .int .i64 n, .int .i64 a, .int .u8 b] w fun e w' => e = .returned (.int .i64 1) ∧ KO w w' := by
  have HS := hide (nhas_any w p h n)
  clear h
  go_enter Try.func20, Try.ntmps20
  go_wp2_with fail
  refine HS.out.mono ?_
  rintro e w1 ⟨rfl, rfl⟩
  go_wp2
  go_ret
  exact ⟨rfl, KO.refl _⟩
theorem nsectors_any (w : World) (p : Option Addr) (h : Bad17 w p)  : Calls Try.prog 21 #[.pointer p] w fun e w' => e = .returned (.int .i64 0) ∧ KO w w' := by
  have HS := hide (h w (KO.refl _))
  clear h
  go_enter Try.func21, Try.ntmps21
  go_wp2_with fail
  refine HS.out.mono ?_
  rintro e w1 ⟨rfl, rfl⟩
  go_wp2
  go_ret
  exact ⟨rfl, KO.refl _⟩
theorem nwaits_any (w : World) (p : Option Addr) (h : Bad17 w p)  : Calls Try.prog 22 #[.pointer p] w fun e w' => e = .returned (.slice none 0 0) ∧ KO w w' := by
  have HS := hide (h w (KO.refl _))
  clear h
  go_enter Try.func22, Try.ntmps22
  go_wp2_with fail
  refine HS.out.mono ?_
  rintro e w1 ⟨rfl, rfl⟩
  go_wp2
  go_ret
  exact ⟨rfl, KO.refl _⟩
theorem nsteps_any (w : World) (p : Option Addr) (h : Bad17 w p)  : Calls Try.prog 23 #[.pointer p] w fun e w' => e = .returned (.int .i64 0) ∧ KO w w' := by
  have HS := hide (h w (KO.refl _))
  clear h
  go_enter Try.func23, Try.ntmps23
  go_wp2_with fail
  refine HS.out.mono ?_
  rintro e w1 ⟨rfl, rfl⟩
  go_wp2
  go_ret
  exact ⟨rfl, KO.refl _⟩
end Go.Proofs.Ythhfgcpflclflaa
