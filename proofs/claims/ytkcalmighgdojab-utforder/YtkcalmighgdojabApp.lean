/- The contract of appendForm. -/
import Derived.Test.YtkcalmighgdojabMeas
import Derived.Deep.AppendLies
namespace Go.Proofs.Ytkcalmighgdojab
open Go.RowKit
set_option linter.unusedVariables false
theorem Try.info5 : (Try.prog.info? 5).map (fun i => (i.zero, i.size, i.bytes)) = some (some (.int .u8 0), 1, 1) := by kernel_rfl
theorem app_close {base n m : Nat} {v v' : Value} {xs fs : List Int} {news : List Value} {w w2 : World} {o : Obj} (hb : base ≤ w.heap.size) (hown : w.ownsRow base 5 1 v n (xs.map (Value.int .u8)))
    (h1 : w2.ownsRow base 5 1 v' (n + m) (xs.map (Value.int .u8) ++ news)) (hg : (w.alloc o).grownBy w2 v.ownBlock) (hf : news = fs.map (Value.int .u8)) (hm : m = fs.length) :
    w2.ownsRow base 5 1 v' (n + fs.length) ((xs ++ fs).map (Value.int .u8)) ∧ Below base w w2 := by
  subst hm hf
  rw [List.map_append]
  exact ⟨h1, ((Below.refl base w).alloc hb o).grown hg (by simp; omega) (fun k hk => (hown.lt k hk).1)⟩
set_option maxHeartbeats 1000000 in
theorem append_any (base : Nat) (v : Value) (n : Nat) (xs : List Int) (r : Int) (w : World) (hown : w.ownsRow base 5 1 v n (xs.map (Value.int .u8))) (hb : base ≤ w.heap.size) (hn : n ≤ 140737488355320) (hr : Utf.size r ≠ 0) :
    Calls Try.prog 11 #[v, .int .i32 r] w fun e w' => ∃ v', e = .returned v' ∧ w'.ownsRow base 5 1 v' (n + (Utf.form r).length) ((xs ++ Utf.form r).map (Value.int .u8)) ∧ Below base w w' := by
  have hs := Utf.size_cases r
  obtain ⟨i5, hi, hz0, hz1, hz2⟩ := info_parts Try.info5
  have HI : Hid (Try.prog.info? 5 = some i5) := hi
  by_cases h1 : r < 128
  · have hr0 : 0 ≤ r := by omega
    have hs1 : Utf.size r = 1 := by omega
    have HF : Hid (Utf.form r = [r]) := by simp [Hid, Utf.form, h1]
    clear hs hr
    go_enter Try.func11, Try.ntmps11
    go_wp2_with (first | (go_at_call 10; refine (size_any _ _).mono ?_; rintro e w' ⟨rfl, rfl⟩) | (go_at_call 14; refine (further_any _ _ (by omega) (by omega)).mono ?_; rintro e w' ⟨rfl, rfl⟩) | (at_builtin; refine wpList_append_own _ rfl _ _ 24 rfl base 5 i5 (.int .u8 0) 1 1 Try.underlying24 HI.out hz0 hz1 hz2 rfl (by decide) _ _ _ rfl (hown.alloc _) ⟨w.heap.size, 0, none⟩ 1 1 [.int .u8 (r)] rfl rfl ?c1 ?c2 ?c3 ?c4 ?c5 ?_))
    case c1 => exact World.news_of_block (heap_alloc_new w _)
    case c2 => exact ints_oneCell .u8 [r]
    case c3 => unfold maxLen; omega
    case c4 => omega
    case c5 => simp; omega
    intro v' w2 hown' hgrow _
    have HX := hide (app_close (fs := [r]) hb hown hown' hgrow rfl rfl)
    clear hown' hgrow hown
    go_wp2
    go_ret
    rw [HF.out]
    exact ⟨_, rfl, HX.out⟩
  by_cases h2 : r < 2048
  · have hr0 : 128 ≤ r := by omega
    have hs1 : Utf.size r = 2 := by omega
    have HF : Hid (Utf.form r = [192 + r / 64, 128 + r % 64]) := by simp [Hid, Utf.form, h1, h2]
    clear hs hr
    go_enter Try.func11, Try.ntmps11
    go_wp2_with (first | (go_at_call 10; refine (size_any _ _).mono ?_; rintro e w' ⟨rfl, rfl⟩) | (go_at_call 14; refine (further_any _ _ (by omega) (by omega)).mono ?_; rintro e w' ⟨rfl, rfl⟩) | (at_builtin; refine wpList_append_own _ rfl _ _ 24 rfl base 5 i5 (.int .u8 0) 1 1 Try.underlying24 HI.out hz0 hz1 hz2 rfl (by decide) _ _ _ rfl (hown.alloc _) ⟨w.heap.size, 0, none⟩ 2 2 [.int .u8 (192 + r / 64), .int .u8 (128 + r % 64)] rfl rfl ?c1 ?c2 ?c3 ?c4 ?c5 ?_))
    case c1 => exact World.news_of_block (heap_alloc_new w _)
    case c2 => exact ints_oneCell .u8 [192 + r / 64, 128 + r % 64]
    case c3 => unfold maxLen; omega
    case c4 => omega
    case c5 => simp; omega
    intro v' w2 hown' hgrow _
    have HX := hide (app_close (fs := [192 + r / 64, 128 + r % 64]) hb hown hown' hgrow rfl rfl)
    clear hown' hgrow hown
    go_wp2
    go_ret
    rw [HF.out]
    exact ⟨_, rfl, HX.out⟩
  by_cases h3 : r < 65536
  · have hr0 : 2048 ≤ r := by omega
    have hs1 : Utf.size r = 3 := by omega
    have HF : Hid (Utf.form r = [224 + r / 4096, 128 + r / 64 % 64, 128 + r % 64]) := by simp [Hid, Utf.form, h1, h2, h3]
    clear hs hr
    go_enter Try.func11, Try.ntmps11
    go_wp2_with (first | (go_at_call 10; refine (size_any _ _).mono ?_; rintro e w' ⟨rfl, rfl⟩) | (go_at_call 14; refine (further_any _ _ (by omega) (by omega)).mono ?_; rintro e w' ⟨rfl, rfl⟩) | (at_builtin; refine wpList_append_own _ rfl _ _ 24 rfl base 5 i5 (.int .u8 0) 1 1 Try.underlying24 HI.out hz0 hz1 hz2 rfl (by decide) _ _ _ rfl (hown.alloc _) ⟨w.heap.size, 0, none⟩ 3 3 [.int .u8 (224 + r / 4096), .int .u8 (128 + r / 64 % 64), .int .u8 (128 + r % 64)] rfl rfl ?c1 ?c2 ?c3 ?c4 ?c5 ?_))
    case c1 => exact World.news_of_block (heap_alloc_new w _)
    case c2 => exact ints_oneCell .u8 [224 + r / 4096, 128 + r / 64 % 64, 128 + r % 64]
    case c3 => unfold maxLen; omega
    case c4 => omega
    case c5 => simp; omega
    intro v' w2 hown' hgrow _
    have HX := hide (app_close (fs := [224 + r / 4096, 128 + r / 64 % 64, 128 + r % 64]) hb hown hown' hgrow rfl rfl)
    clear hown' hgrow hown
    go_wp2
    go_ret
    rw [HF.out]
    exact ⟨_, rfl, HX.out⟩
  · have hr0 : 65536 ≤ r := by omega
    have hr1 : r ≤ 1114111 := by omega
    have hs1 : Utf.size r = 4 := by omega
    have HF : Hid (Utf.form r = [240 + r / 262144, 128 + r / 4096 % 64, 128 + r / 64 % 64, 128 + r % 64]) := by simp [Hid, Utf.form, h1, h2, h3]
    clear hs hr
    go_enter Try.func11, Try.ntmps11
    go_wp2_with (first | (go_at_call 10; refine (size_any _ _).mono ?_; rintro e w' ⟨rfl, rfl⟩) | (go_at_call 14; refine (further_any _ _ (by omega) (by omega)).mono ?_; rintro e w' ⟨rfl, rfl⟩) | (at_builtin; refine wpList_append_own _ rfl _ _ 24 rfl base 5 i5 (.int .u8 0) 1 1 Try.underlying24 HI.out hz0 hz1 hz2 rfl (by decide) _ _ _ rfl (hown.alloc _) ⟨w.heap.size, 0, none⟩ 4 4 [.int .u8 (240 + r / 262144), .int .u8 (128 + r / 4096 % 64), .int .u8 (128 + r / 64 % 64), .int .u8 (128 + r % 64)] rfl rfl ?c1 ?c2 ?c3 ?c4 ?c5 ?_))
    case c1 => exact World.news_of_block (heap_alloc_new w _)
    case c2 => exact ints_oneCell .u8 [240 + r / 262144, 128 + r / 4096 % 64, 128 + r / 64 % 64, 128 + r % 64]
    case c3 => unfold maxLen; omega
    case c4 => omega
    case c5 => simp; omega
    intro v' w2 hown' hgrow _
    have HX := hide (app_close (fs := [240 + r / 262144, 128 + r / 4096 % 64, 128 + r / 64 % 64, 128 + r % 64]) hb hown hown' hgrow rfl rfl)
    clear hown' hgrow hown
    go_wp2
    go_ret
    rw [HF.out]
    exact ⟨_, rfl, HX.out⟩
end Go.Proofs.Ytkcalmighgdojab
