/- Does the program's disk tell what the document's does? -/
import Derived.Test.YthhfgcpflclflaaPr17
import Derived.BigQuiet
namespace Go.Proofs.Ythhfgcpflclflaa
open Go.RowKit
set_option linter.unusedVariables false
set_option maxHeartbeats 2000000
set_option maxRecDepth 100000
/-- A block of bytes that a call told. -/
def BS17 (w : World) (g : Nat) (zs : List Int) : Prop := w.heap[g]? = some (.cells (uv zs).toArray 75 (0, 0))
theorem BS17.ko {w w' : World} {g : Nat} {zs : List Int} (h : BS17 w g zs) (hk : KO w w') : BS17 w' g zs := (Below.block hk g (Array.getElem?_eq_some_iff.1 h).1).trans h
theorem BS17.cell {w : World} {g : Nat} {zs : List Int} (h : BS17 w g zs) {i : Nat} (hi : i < zs.length) : w.cell? ⟨g, i, none⟩ = some (.int .u8 (zs.getD i 0)) := by
  have := blk_range h 0 (uv zs) (fun j v hj => by rw [Nat.zero_add]; exact hj) i (.int .u8 (zs.getD i 0)) (by unfold uv; rw [List.getElem?_map, List.getElem?_eq_getElem hi]; simp [List.getD, List.getElem?_eq_getElem hi])
  rw [Nat.zero_add] at this
  exact this
theorem BS17.fz {w : World} {g : Nat} {zs : List Int} (h : BS17 w g zs) (i : Nat) : w.frozen? ⟨g, i, none⟩ = false := by
  unfold BS17 at h
  simp [World.frozen?, h]
theorem BS17.set {w : World} {g : Nat} {zs : List Int} (h : BS17 w g zs) (i : Nat) (z : Int) : BS17 (w.setCell ⟨g, i, none⟩ (.int .u8 z)) g (zs.set i z) := by
  have := blk_put h i (.int .u8 z)
  unfold BS17
  rw [this]
  simp [uv]
theorem nums_at (ws : List (Nat × List Int)) {k : Nat} (h : k < ws.length) : (nums ws).getD k 0 = ((ws.getD k (0, [])).1 : Int) := by
  unfold nums
  simp [List.getD, List.getElem?_eq_getElem h]
theorem RD_or (d : Dk.Ds) (n : Int) : (Dk.RD d n).2 = 0 ∨ (Dk.RD d n).1 = [] := by
  unfold Dk.RD
  split
  · exact .inr rfl
  · split
    · exact .inr rfl
    · exact .inl rfl
theorem alike_any {P : Nat → Prop} {w : World} {g r : Nat} {d : Dk.Ds} {k : Nat} (h : PR P w g r d d) (hb : Bd d k) (hk : k ≤ 4096) :
    Calls Try.prog 14 #[.pointer (some ⟨g, 0, none⟩), .pointer (some ⟨r, 0, none⟩)] w fun e w' => e = .returned (.bool true) ∧ KO w w' := by
  have HO := hide (fun w' (hk : KO w w') => (h.ko hk).od)
  have HR := hide (fun w' (hk : KO w w') => (h.ko hk).ro)
  have HWF := hide h.od.wf
  have HBD := hide hb
  have HKK := hide hk
  have hll := hb.lies
  have hwl : d.waits.length ≤ 4096 := by have := hb.waits; omega
  have HWT := hide (owaits_any h.od hb hk)
  clear h hb hk
  go_enter Try.func14, Try.ntmps14
  go_wp2_with fail
  refine HWT.out.mono ?_
  rintro e w1 ⟨a1, c1, rfl, hr1, hk1⟩
  have K1 := hide hk1
  have R1 := hide hr1
  have HSE := hide (fun w' (hk : KO w w') => osectors_any (HO.out w' hk))
  have HST := hide (fun w' (hk : KO w w') => osteps_any (HO.out w' hk))
  obtain ⟨gl, cl, vw, hrd, _⟩ := HR.out w1 hk1
  obtain ⟨q0, q1, q2, q3⟩ := hrd.cells
  obtain ⟨aw, cw, rfl, hle⟩ := hrd.form
  clear hr1 hrd hle HWT
  obtain ⟨ml, hml⟩ : ∃ ml, d.lies.length = ml := ⟨_, rfl⟩
  obtain ⟨mw, hmw⟩ : ∃ mw, d.waits.length = mw := ⟨_, rfl⟩
  have HML := hide hml
  have HMW := hide hmw
  rw [hml] at q0 HSE hll
  rw [hmw] at q1 R1 hwl
  rw [hmw]
  clear hml hmw
  go_wp2_with fail
  clear hk1
  go_quiet (first | (go_at_call 21; exact Calls.quiet_of_same ((HSE.out _ (KO.on K1.out (below_drewN _ _))).mono fun _ _ ⟨he, hm⟩ => ⟨he, hm.symm⟩)) | (go_at_call 23; exact Calls.quiet_of_same ((HST.out _ (KO.on K1.out (below_drewN _ _))).mono fun _ _ ⟨he, hm⟩ => ⟨he, hm.symm⟩)))
  clear q0 q1 q2 q3
  go_wp2
  go_loopw [6, 44] (fun _ s44 wr => ∃ i : Nat, i ≤ mw ∧ s44 = .int .i64 (i : Int) ∧ KO w1 wr) (fun _ s44 _ => mw - (intOf s44).toNat)
  case atStart => exact ⟨0, Nat.zero_le _, rfl, below_drewN _ _⟩
  case round =>
    obtain ⟨i, hi, rfl, hko⟩ := hrel
    have K2 := hide hko
    by_cases hlt : i < mw
    · have e1 : (i : Int) < (mw : Int) := by omega
      obtain ⟨b0, o0, rfl, _, hcs⟩ := (R1.out.below hko).cells (by omega)
      have q0 := hcs i (by rw [R1.out.len]; omega)
      rw [nums_at _ (by rw [HMW.out]; omega)] at q0
      obtain ⟨gl2, cl2, vw2, hrd2, _⟩ := HR.out wr (KO.on K1.out hko)
      obtain ⟨_, q1, _, _⟩ := hrd2.cells
      obtain ⟨gw, cw2, rfl, hw2⟩ := hrd2.wait (by rw [HMW.out]; omega)
      have q2 := (hw2 i (by rw [HMW.out]; omega)).1
      rw [HMW.out] at q1
      obtain ⟨nn, hnn⟩ : ∃ nn, ((d.waits.getD i (0, [])).1 : Int) = nn := ⟨_, rfl⟩
      rw [hnn] at q0 q2
      clear hcs hrd2 hw2 hnn hko
      go_wp2
      go_quiet (fail)
      clear q0 q1 q2
      go_wp2
      go_roundw
      case rel => exact ⟨i + 1, by omega, by go_num, KO.on K2.out (below_drewN _ _)⟩
      case measure => simp [intOf]; omega
    · obtain rfl : i = mw := by omega
      clear hko
      go_wp2
      have K3 := hide (KO.on K1.out K2.out)
      clear K1 K2 R1 HMW
      go_loopw [7, 8, 9, 10, 11, 12, 93] (fun s7 _ _ _ _ _ _ wr => ∃ m : Nat, m ≤ ml + 2 ∧ s7 = .int .i64 ((m : Int) - 1) ∧ KO w wr) (fun s7 _ _ _ _ _ _ _ => ml + 2 - (intOf s7 + 1).toNat)
      case atStart => exact ⟨0, Nat.zero_le _, rfl, K3.out⟩
      case round =>
        obtain ⟨m, hm, rfl, hko⟩ := hrel
        have K4 := hide hko
        obtain ⟨gl3, cl3, vw3, hrd3, _⟩ := HR.out _ hko
        obtain ⟨q0, _, _, _⟩ := hrd3.cells
        rw [HML.out] at q0
        clear hrd3
        by_cases hlt : m < ml + 2
        · have e1 : (m : Int) - 1 ≤ (ml : Int) := by omega
          have HRD := hide (oread_any (HO.out _ hko) ((m : Int) - 1))
          go_wp2_with fail
          refine HRD.out.mono ?_
          rintro e w5 ⟨a5, c5, rfl, hr5, hk5, hx5⟩
          have K5 := hide (KO.on K4.out hk5)
          have HXR := hide (xread_any (HR.out _ K5.out) ((m : Int) - 1))
          have hst := run_str w5 a5 _ c5 _ hr5 (RD_bytes HWF.out ((m : Int) - 1))
          have HBK : Hid (∃ bk, w.heap.size ≤ bk ∧ (0 < (Dk.RD d ((m : Int) - 1)).1.length → a5 = some ⟨bk, 0, none⟩ ∧ c5 = 64 ∧ BS17 w5 bk (Dk.RD d ((m : Int) - 1)).1)) := hide (by
            rcases RD_or d ((m : Int) - 1) with q | q
            · obtain ⟨e3, b, e4, e5, e6⟩ := hx5 q
              exact ⟨b, Nat.le_trans K4.out.size e5, fun _ => ⟨e4, e3, e6⟩⟩
            · exact ⟨w.heap.size, Nat.le_refl _, fun q2 => by rw [q] at q2; simp at q2⟩)
          have hlc := hr5.le
          have hmx := hr5.max
          obtain ⟨Z, hZ⟩ : ∃ Z, (Dk.RD d ((m : Int) - 1)).1 = Z := ⟨_, rfl⟩
          obtain ⟨cd, hcd⟩ : ∃ cd, (Dk.RD d ((m : Int) - 1)).2 = cd := ⟨_, rfl⟩
          rw [hZ] at hst HXR HBK hlc
          rw [hcd] at HXR
          rw [hZ, hcd]
          obtain ⟨L, hL⟩ : ∃ L, Z.length = L := ⟨_, rfl⟩
          have HL := hide hL
          rw [hL] at hst HBK hlc
          rw [hL]
          generalize str Z = sz at *
          clear hr5 hk5 hx5 hZ hcd hL q0
          unfold maxLen at hmx
          go_wp2_with fail
          refine HXR.out.mono ?_
          rintro e w6 ⟨rfl, rfl⟩
          go_wp2
          obtain ⟨bk, hbk0, hbk⟩ := HBK.out
          have HB0 := hide hbk0
          have HB := hide hbk
          clear hst hbk hbk0 HBK
          go_loopw [12, 93] (fun _ s93 wr => ∃ j : Nat, j ≤ L ∧ s93 = .int .i64 (j : Int) ∧ KO w wr ∧ (0 < L → ∃ zs : List Int, zs.length = L ∧ BS17 wr bk zs)) (fun _ s93 _ => L - (intOf s93).toNat)
          case atStart => exact ⟨0, Nat.zero_le _, rfl, K5.out, fun q => ⟨Z, HL.out, (HB.out q).2.2⟩⟩
          case round =>
            obtain ⟨j, hj, rfl, hko, hzs⟩ := hrel
            by_cases hjl : j < L
            · have e2 : (j : Int) < (L : Int) := by omega
              obtain ⟨zs, hzl, hbs⟩ := hzs (by omega)
              obtain ⟨rfl, rfl, _⟩ := HB.out (by omega)
              have cj := hbs.cell (i := j) (by omega)
              have fj := hbs.fz j
              obtain ⟨old, hold⟩ : ∃ old, zs.getD j 0 = old := ⟨_, rfl⟩
              rw [hold] at cj
              have HN := hide (fun z => hbs.set j z)
              have HKN := hide (fun z => Below.setCell hko (p := ⟨bk, j, none⟩) (by exact HB0.out) (.int .u8 z))
              have HZL := hide hzl
              clear hzs hbs hold hzl hko
              go_wp2
              go_roundw
              case rel => exact ⟨j + 1, by omega, by go_num, HKN.out _, fun _ => ⟨_, by rw [List.length_set]; exact HZL.out, HN.out _⟩⟩
              case measure => simp [intOf]; omega
            · obtain rfl : j = L := by omega
              have KE := hide hko
              clear hzs hko
              go_wp2
              go_roundw
              case rel => exact ⟨m + 1, by omega, by go_num, KE.out⟩
              case measure => simp [intOf]; omega
        · have e1 : ¬ (m : Int) - 1 ≤ (ml : Int) := by omega
          go_wp2
          go_ret
          exact ⟨rfl, K4.out⟩
end Go.Proofs.Ythhfgcpflclflaa
