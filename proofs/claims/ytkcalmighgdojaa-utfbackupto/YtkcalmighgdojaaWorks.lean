/- The contract of works: the chapter's example. -/
import Derived.Test.YtkcalmighgdojaaDec
namespace Go.Proofs.Ytkcalmighgdojaa
open Go.RowKit
set_option linter.unusedVariables false
theorem row_lit (k : IntKind) (w : World) (zs : List Int) (e : TypeId) (hm : zs.length ≤ maxLen) : Row k (w.alloc (.cells (zs.map (Value.int k)).toArray e)) (some ⟨w.heap.size, 0, none⟩) zs.length zs.length zs :=
  ⟨rfl, Nat.le_refl _, hm, fun _ => ⟨_, _, rfl, by simp, fun i hi => by
    rw [Nat.zero_add, World.cell?_alloc_mark]
    simp [List.getD, List.getElem?_eq_getElem hi]⟩, fun h => by cases h⟩
theorem enc_ex : Utf.enc [97, 1488, 8238, 128512] = [97, 215, 144, 226, 128, 174, 240, 159, 152, 128] := by decide
theorem dec_ex : Utf.dec [97, 215, 144] = ([97, 1488], 3) := by decide
set_option maxHeartbeats 2000000 in
theorem works_any (w : World) : Calls Try.prog 20 #[] w fun e w' => e = .returned (.bool true) ∧ Below w.heap.size w w' := by
  have hok : ∀ x ∈ [(97 : Int), 1488, 8238, 128512], Utf.size x ≠ 0 := by decide
  have HE := hide (encode_ok _ _ _ _ _ (row_lit .i32 w [97, 1488, 8238, 128512] 21 (by decide)) (by decide) hok)
  rw [enc_ex] at HE
  have hby : Bytes [97, 215, 144] := by unfold Bytes; decide
  have HD := hide (fun w1 => decode_yes _ _ _ _ _ (row_lit .u8 w1 [97, 215, 144] 5 (by decide)) hby (by rw [dec_ex]; rfl) (by decide))
  rw [dec_ex] at HD
  have hby2 : Hid (Bytes [97, 215, 144, 226, 128, 174, 240, 159, 152, 128]) := by unfold Hid Bytes; decide
  have hst : Hid (str [97, 215, 144, 226, 128, 174, 240, 159, 152, 128] = ⟨#[97, 215, 144, 226, 128, 174, 240, 159, 152, 128]⟩) := by unfold Hid; rfl
  clear hok hby
  go_enter Try.func20, Try.ntmps20
  go_wp2_with fail
  refine HE.out.mono ?_
  rintro e w1 ⟨v1, rfl, ho1, hb1⟩
  obtain ⟨a1, c1, rfl, hr1⟩ := row_of_owns ho1
  have HR1 := hide hr1
  have HB1 := hide (((Below.refl _ w).alloc (Nat.le_refl _) _).trans (hb1.mono (by simp)))
  clear ho1 hb1 hr1 HE
  go_wp2_with fail
  refine (HD.out w1).mono ?_
  rintro e w2 ⟨v2, rfl, ho2, hb2⟩
  obtain ⟨a2, c2, rfl, hr2⟩ := row_of_owns ho2
  have hq1 : (convert 22 9 (.slice a1 10 c1)).run Try.prog w2 = .ok (.string ⟨#[97, 215, 144, 226, 128, 174, 240, 159, 152, 128]⟩) w2 := by
    rw [← hst.out]
    exact run_str _ _ _ _ _ ((HR1.out.below ((Below.refl _ w1).alloc (Nat.le_refl _) _)).below hb2) hby2.out
  obtain ⟨b2, o2, rfl, _, hc2⟩ := hr2.cells (by decide)
  have g0 : w2.cell? ⟨b2, o2, none⟩ = some (.int .i32 97) := hc2 0 (by decide)
  have g1 : w2.cell? ⟨b2, o2 + 1, none⟩ = some (.int .i32 1488) := hc2 1 (by decide)
  have s1 := HB1.out.size
  have HB2 := hide (((HB1.out.alloc s1 _).trans (hb2.mono (by simp; omega))))
  clear ho2 hb2 hr2 hc2 HD HR1
  go_wp2
  go_ret
  exact ⟨rfl, HB2.out⟩
end Go.Proofs.Ytkcalmighgdojaa
