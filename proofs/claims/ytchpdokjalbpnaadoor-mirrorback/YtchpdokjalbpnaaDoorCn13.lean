/- slices.Clone of a list of numbers. -/
import Derived.Test.YtchpdokjalbpnaaDoorInts
import Derived.Test.YtchpdokjalbpnaaDoorSpare
import Derived.Test.YtchpdokjalbpnaaDoorKeep
namespace Go.Proofs.YtchpdokjalbpnaaDoor
open Go.RowKit
set_option linter.unusedVariables false
set_option maxHeartbeats 2000000
set_option maxRecDepth 100000
theorem nil_yes (w : World) : (binOp BinOp.eql 26 (.slice none 0 0) (.slice none 0 0)).run Tryd.prog w = .ok (.bool true) w := by kernel_rfl
theorem nil_no (ad : Addr) (n cap : Nat) (w : World) : (binOp BinOp.eql 26 (.slice (some ad) n cap) (.slice none 0 0)).run Tryd.prog w = .ok (.bool false) w := by kernel_rfl
theorem clone_any (ao : Option Addr) (n cap : Nat) (l : List Int) (w : World) (h : Row .i64 w ao n cap l) (hn : n * 8 ≤ 281474976710656) :
    Calls Tryd.prog 30 #[.slice ao n cap] w fun e w' => ∃ v, e = .returned v ∧ w'.ownsRow w.heap.size 3 1 v n (l.map (Value.int .i64)) ∧ KO w w' := by
  obtain ⟨ii, hii, hy0, hy1, hy2⟩ := info_parts infoInt
  have HII : Hid (Tryd.prog.info? 3 = some ii) := hii
  have HY0 := hide hy0
  have HY1 := hide hy1
  have HY2 := hide hy2
  cases ao with
  | none =>
    have hcap := h.nil rfl
    have hn0 : n = 0 := by have := h.le; omega
    subst hcap hn0
    have hl : l = [] := List.length_eq_zero_iff.1 h.len
    subst hl
    have hnil := nil_yes w
    clear h
    go_enter Tryd.func30, Tryd.ntmps30
    go_wp2
    go_ret
    exact ⟨_, rfl, World.ownsRow_nil _ _ _ _, KO.refl w⟩
  | some ad =>
    have HR := hide (h.below (KO.alloc (KO.refl w) (.cells #[] 3)))
    have HE := hide (owns_empty w 3 w.heap.size rfl)
    have HK := hide (KO.alloc (KO.refl w) (.cells #[] 3))
    have hnil := nil_no ad n cap w
    clear h
    go_enter Tryd.func30, Tryd.ntmps30
    go_wp2_with (at_builtin; refine wpList_append_fresh _ rfl (.tmp 5) (.tmp 6) 26 rfl w.heap.size 3 ii (.int .i64 0) 8 Tryd.underlying26 HII.out HY0.out HY1.out HY2.out rfl w.heap.size rfl HE.out .i64 _ n cap l rfl HR.out ?c0 ?c1 (by simp) ?_)
    case c0 => omega
    case c1 => omega
    intro v2 w2 ho2 hb2
    have HO := hide ho2
    have HB := hide (Below.trans HK.out hb2)
    clear ho2 hb2
    go_wp2
    go_ret
    exact ⟨_, rfl, HO.out, HB.out⟩
end Go.Proofs.YtchpdokjalbpnaaDoor
