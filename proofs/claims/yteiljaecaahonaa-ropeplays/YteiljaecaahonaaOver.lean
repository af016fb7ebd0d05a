/- The contract of over: a node over two trees. -/
import Derived.Test.YteiljaecaahonaaNd
import Derived.Deep.Cut
import Derived.Deep.CutRange
namespace Go.Proofs.Yteiljaecaahonaa
open Go.RowKit
set_option linter.unusedVariables false
set_option maxHeartbeats 4000000
set_option maxRecDepth 100000
theorem lies_new (w w1 : World) (l r : Tr) (x : Int) (t : TypeId) (hk : KO w w1) (hl : Lies w l) (hr : Lies w r) :
    Lies (w1.alloc (.cells #[.pointer l.at, .pointer r.at, .int .i32 x, .int .i64 ((Tr.node w1.heap.size l x r).high : Int), .int .i64 ((Tr.node w1.heap.size l x r).size : Int), .int .i64 ((Tr.node w1.heap.size l x r).brk : Int)] t)).drew (.node w1.heap.size l x r) := by
  have hb : Below w.heap.size w (w1.alloc (.cells #[.pointer l.at, .pointer r.at, .int .i32 x, .int .i64 ((Tr.node w1.heap.size l x r).high : Int), .int .i64 ((Tr.node w1.heap.size l x r).size : Int), .int .i64 ((Tr.node w1.heap.size l x r).brk : Int)] t)).drew := (hk.alloc _).drew
  refine ⟨?_, ?_, ?_, ?_, ?_, ?_, hl.below hb, hr.below hb⟩
  all_goals (show (w1.alloc _).cell? _ = _; rw [World.cell?_alloc_mark]; rfl)
def sideI (q : Bool) : Int := if q then 1 else 0
theorem over_any (q : Bool) (b : Nat) (x : Int) (near far : Tr) (w : World) (ht : Top w b x) (hn : Lies w near) (hf : Lies w far) (hs : near.size + far.size + 1 ≤ 4611686018427387904) :
    Calls Try.prog 54 #[.int .i64 (sideI q), .pointer (some ⟨b, 0, none⟩), .pointer near.at, .pointer far.at] w fun e w' =>
      ∃ b', e = .returned (.pointer (some ⟨b', 0, none⟩)) ∧ Lies w' (Tr.mk q b' near x far) ∧ Below w.heap.size w w' := by
  have HN := hide hn
  have HF := hide hf
  have HD1 := hide (fun w' (hk : KO w w') => deep_any near w' (hn.below hk))
  have HD2 := hide (fun w' (hk : KO w w') => deep_any far w' (hf.below hk))
  have HL1 := hide (fun w' (hk : KO w w') => len_any near w' (hn.below hk))
  have HL2 := hide (fun w' (hk : KO w w') => len_any far w' (hf.below hk))
  have HS1 := hide (fun w' (hk : KO w w') => seps_any near w' (hn.below hk))
  have HS2 := hide (fun w' (hk : KO w w') => seps_any far w' (hf.below hk))
  have HO := hide (fun w' (hk : KO w w') => (own_any b x w' (ht.below hk)).mono (R' := fun e w2 => e = .returned (.int .i64 (sep x : Int)) ∧ Below w'.heap.size w' w2) (fun e w2 ⟨he, n, hn⟩ => ⟨he, hn ▸ Below.drewN w' n⟩))
  obtain ⟨l0, r0, c0, c1, c2, c5, hl0, hr0, hk0⟩ := ht
  have hlt : b < w.heap.size := by simpa using World.block_lt_of_cell? w _ c0
  have g2 : ∀ w', KO w w' → w'.cell? ⟨b, 2, none⟩ = some (.int .i32 x) := fun w' hk => (Below.cell hk (by exact hlt)).trans c2
  obtain ⟨p, hp⟩ : ∃ p, near.at = p := ⟨_, rfl⟩
  obtain ⟨r, hr⟩ : ∃ r, far.at = r := ⟨_, rfl⟩
  rw [hp] at HD1 HL1 HS1
  rw [hr] at HD2 HL2 HS2
  rw [hp, hr]
  obtain ⟨mx, hmx⟩ : ∃ mx : Nat, Nat.max near.high far.high = mx := ⟨_, rfl⟩
  have HMX := hide hmx
  have hrm : ∀ (w' : World) (ts : Array TypeId) (t : TypeId), (Builtin.max_ ts t #[.int .i64 (near.high : Int), .int .i64 (far.high : Int)]).run Try.prog w' = .ok (.int .i64 (mx : Int)) w' := by
    intro w' ts t
    rw [run_max_int2]
    have e : Nat.max near.high far.high = max near.high far.high := rfl
    rw [e] at hmx
    congr 2
    split <;> omega
  clear hmx
  obtain ⟨hh, hhd⟩ : ∃ hh : Nat, (Tr.mk q 0 near x far).high = hh := ⟨_, rfl⟩
  obtain ⟨ss, hsd⟩ : ∃ ss : Nat, (Tr.mk q 0 near x far).size = ss := ⟨_, rfl⟩
  obtain ⟨kk, hkd⟩ : ∃ kk : Nat, (Tr.mk q 0 near x far).brk = kk := ⟨_, rfl⟩
  obtain ⟨s1, hs1⟩ : ∃ s1 : Nat, near.size + far.size = s1 := ⟨_, rfl⟩
  obtain ⟨k1, hk1⟩ : ∃ k1 : Nat, near.brk + far.brk = k1 := ⟨_, rfl⟩
  have e1 : IntKind.i64.wrap ((mx : Int) + 1) = (hh : Int) := by
    rw [Tr.mk_high, HMX.out] at hhd
    have h1 := near.high_le
    have h2 := far.high_le
    have h3 : mx ≤ near.size + far.size := by rw [← HMX.out]; exact Nat.max_le.2 ⟨by omega, by omega⟩
    rw [wrap_small (by omega) (by omega)]; omega
  have e2 : IntKind.i64.wrap ((near.size : Int) + (far.size : Int)) = (s1 : Int) := by rw [wrap_small (by omega) (by omega)]; omega
  have e3 : IntKind.i64.wrap ((s1 : Int) + 1) = (ss : Int) := by rw [Tr.mk_size] at hsd; rw [wrap_small (by omega) (by omega)]; omega
  have e4 : IntKind.i64.wrap ((near.brk : Int) + (far.brk : Int)) = (k1 : Int) := by have := near.brk_le; have := far.brk_le; rw [wrap_small (by omega) (by omega)]; omega
  have e5 : IntKind.i64.wrap ((k1 : Int) + (sep x : Int)) = (kk : Int) := by have := near.brk_le; have := far.brk_le; have := sep_le x; rw [Tr.mk_brk] at hkd; rw [wrap_small (by omega) (by omega)]; omega
  have HH := hide hhd
  have HSS := hide hsd
  have HKK := hide hkd
  clear hhd hsd hkd hs1 hk1
  have hK := KO.refl w
  have HP := hide hp
  have HR := hide hr
  have HSZ := hide hs
  clear hn hf c0 c1 c2 c5 hl0 hr0 hk0 hlt hp hr hs
  obtain ⟨s, hsd⟩ : ∃ s, sideI q = s := ⟨_, rfl⟩
  rw [hsd]
  have HQ := hide hsd
  clear hsd
  go_enter Try.func54, Try.ntmps54
  go_wp2_with fail
  go_cut [9] from 10 to 35 (fun s9 wx => ∃ w1 : World, KO w w1 ∧ s9 = .pointer (some ⟨w1.heap.size, 0, none⟩) ∧ wx = w1.alloc (.cells #[.pointer none, .pointer none, .int .i32 x, .int .i64 (hh : Int), .int .i64 (ss : Int), .int .i64 (kk : Int)] 97))
  case first =>
    refine wp_region_noPanic ?_
    go_region_held (fun w' => KO w w') (first | assumption | (refine KO.alloc ?_ _; assumption) | exact KO.drew hK)
      (first
        | (go_at_call_of 50 p; refine (HD1.out _ (by assumption)).mono ?_; rintro e w' ⟨rfl, rfl⟩)
        | (go_at_call_of 50 r; refine (HD2.out _ (by assumption)).mono ?_; rintro e w' ⟨rfl, rfl⟩)
        | (go_at_call_of 48 p; refine (HL1.out _ (by assumption)).mono ?_; rintro e w' ⟨rfl, rfl⟩)
        | (go_at_call_of 48 r; refine (HL2.out _ (by assumption)).mono ?_; rintro e w' ⟨rfl, rfl⟩)
        | (go_at_call_of 49 p; refine (HS1.out _ (by assumption)).mono ?_; rintro e w' ⟨rfl, rfl⟩)
        | (go_at_call_of 49 r; refine (HS2.out _ (by assumption)).mono ?_; rintro e w' ⟨rfl, rfl⟩)
        | (go_at_call 59; refine (HO.out _ (by assumption)).mono ?_; rintro e w' ⟨rfl, hb2⟩; have hk2 : KO w w' := KO.on (by assumption) hb2))
    all_goals
      refine NoPanic.normal ?_
      go_wp2
      go_meet
      exact ⟨_, hk2, rfl, rfl⟩
  obtain ⟨w1, hk1, rfl, rfl⟩ := hcut
  clear HD1 HD2 HL1 HL2 HS1 HS2 HO g2 hrm e1 e2 e3 e4 e5 hK
  have hq := HQ.out
  have hp := HP.out
  have hr := HR.out
  subst hp hr
  cases q
  · simp only [sideI] at hq
    have hq0 : s = 0 := hq.symm
    subst hq0
    have e1 : (Tr.node w1.heap.size near x far).high = hh := HH.out
    have e2 : (Tr.node w1.heap.size near x far).size = ss := by rw [← HSS.out, Tr.mk_size, Tr.size_node]
    have e3 : (Tr.node w1.heap.size near x far).brk = kk := by rw [← HKK.out, Tr.mk_brk, Tr.brk_node]
    have HLN := hide (lies_new w w1 near far x 97 hk1 HN.out HF.out)
    rw [e1, e2, e3] at HLN
    clear hq HQ e1 e2 e3
    go_wp2
    go_region
    all_goals (
      go_wp2
      go_ret
      exact ⟨_, rfl, HLN.out, (hk1.alloc _).drew⟩)
  · simp only [sideI] at hq
    have hq0 : s = 1 := hq.symm
    subst hq0
    have e1 : (Tr.node w1.heap.size far x near).high = hh := HH.out
    have e2 : (Tr.node w1.heap.size far x near).size = ss := by rw [← HSS.out, Tr.mk_size, Tr.size_node]; omega
    have e3 : (Tr.node w1.heap.size far x near).brk = kk := by rw [← HKK.out, Tr.mk_brk, Tr.brk_node]; omega
    have HLN := hide (lies_new w w1 far near x 97 hk1 HF.out HN.out)
    rw [e1, e2, e3] at HLN
    clear hq HQ e1 e2 e3
    go_wp2
    go_region
    all_goals (
      go_wp2
      go_ret
      exact ⟨_, rfl, HLN.out, (hk1.alloc _).drew⟩)
end Go.Proofs.Yteiljaecaahonaa
