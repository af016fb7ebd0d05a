/- slices.Grow of nothing; slices.Concat of two lists of numbers; which way a level leans. -/
import Derived.Test.YtbbhefiibcbbfaaInts
import Derived.Test.YtbbhefiibcbbfaaSpare
import Derived.Test.YtbbhefiibcbbfaaKeep
import Derived.Test.YtbbhefiibcbbfaaFl
import Derived.Lib.AppendZeros
namespace Go.Proofs.Ytbbhefiibcbbfaa
open Go.RowKit
set_option linter.unusedVariables false
set_option maxHeartbeats 2000000
set_option maxRecDepth 100000
theorem grow0_any (n : Nat) (h0 : 0 < n) (hn : n * 8 ≤ 281474976710656) (w : World) :
    Calls Try.prog 26 #[.slice none 0 0, .int .i64 (n : Int)] w fun e w' => ∃ c, e = .returned (.slice (some ⟨w.heap.size, 0, none⟩) 0 c) ∧ n ≤ c ∧ w'.ownsRow w.heap.size 3 1 (.slice (some ⟨w.heap.size, 0, none⟩) 0 c) 0 [] ∧ KO w w' := by
  obtain ⟨ii, hii, hy0, hy1, hy2⟩ := info_parts infoInt
  have hr := fun ty => Lib.run_append_nil_zeros (P := Try.prog) w 22 3 ty 3 ii (.int .i64 0) .i64 .i64 Try.underlying22 Try.underlying3 hii hy0 n h0 (by rw [hy1]; decide) (by omega) (by rw [hy2]; exact hn)
  have hge := grownCap_ge w n 0 3
  have hmx : grownCap w n 0 3 ≤ maxLen := grownCap_le_maxLen w n 0 3 (by unfold maxLen; omega)
  generalize hG : grownCap w n 0 3 = G at *
  have HO : Hid ((w.drew.alloc (.cells (Builtin.zeroCells (Value.int .i64 0).cells n ++ Builtin.zeroCells (Value.int .i64 0).cells (G - n)) 3)).ownsRow w.heap.size 3 1 (.slice (some ⟨w.heap.size, 0, none⟩) 0 G) 0 []) := hide (by
    refine ⟨rfl, .inr ⟨w.heap.size, G, _, rfl, Nat.le_refl _, heap_alloc_new w.drew _, Nat.zero_le _, hmx, ?_, ?_⟩⟩
    · rw [Array.size_append, size_zeroCells, size_zeroCells]
      show n * 1 + (G - n) * 1 = G * 1
      omega
    · simp)
  have HK : Hid (KO w (w.drew.alloc (.cells (Builtin.zeroCells (Value.int .i64 0).cells n ++ Builtin.zeroCells (Value.int .i64 0).cells (G - n)) 3))) := hide (KO.alloc (KO.drew (KO.refl w)) _)
  unfold maxLen at hmx
  clear hG hii hy0 hy1 hy2
  generalize w.drew.alloc (.cells (Builtin.zeroCells (Value.int .i64 0).cells n ++ Builtin.zeroCells (Value.int .i64 0).cells (G - n)) 3) = W at *
  have hn0 : ¬ (n : Int) < 0 := by omega
  have hn1 : (n : Int) > 0 := by omega
  go_enter Try.func26, Try.ntmps26
  go_wp2_with (at_builtin; refine Lib.wpList_append_run _ rfl _ _ _ _ rfl _ _ rfl rfl _ _ (hr _) ?_)
  go_ret
  exact ⟨_, rfl, hge, HO.out, HK.out⟩
/-- An append of a list to an empty row with room: the list is nil or not. -/
theorem wpList_append_into {P : Program} (w : World) {ops : Array Oper} {rest : List Oper} {o : Oper} {a : Act} {Q : Exit → Act → World → Prop} (hw : Region.wanted o (yielded ops a.tmps) = true) (s x : Operand) (t : TypeId)
    (ho : o.op = .call { callee := .builtin .append, args := #[s, x], argTypes := #[t, t] })
    (base : Nat) (e : TypeId) (i : TypeInfo) (z : Value) (ht : P.underlying t = some (.slice e)) (hi : P.info? e = some i) (hz : i.zero = some z) (hsize : i.size = 1) (hby : i.bytes = 8) (hzs : z.cells.size = 1)
    (g n cap : Nat) (xs : List Value) (hs : a.eval s = .slice (some ⟨g, 0, none⟩) n cap) (hown : w.ownsRow base e 1 (.slice (some ⟨g, 0, none⟩) n cap) n xs) (hn : n * 8 ≤ 140737488355328) (hbase : base ≤ w.heap.size)
    (k : IntKind) (ao : Option Addr) (m c : Nat) (zs : List Int) (hx : a.eval x = .slice ao m c) (hrow : Row k w ao m c zs) (hroom : n + m ≤ cap)
    (h : ∀ w', w'.ownsRow base e 1 (.slice (some ⟨g, 0, none⟩) (n + m) cap) (n + m) (xs ++ zs.map (Value.int k)) → Below base w w' → wpList P ops Q rest (a.put o.dst (.slice (some ⟨g, 0, none⟩) (n + m) cap)) w') : wpList P ops Q (o :: rest) a w := by
  cases ao with
  | some ad => exact wpList_append_spare w hw s x t ho base e i ht hi hsize g n cap xs hs hown k ad m c zs hx hrow hroom h
  | none =>
    have hc := hrow.nil rfl
    have hm : m = 0 := by have := hrow.le; omega
    subst hc hm
    have hzs0 : zs = [] := List.length_eq_zero_iff.1 hrow.len
    subst hzs0
    have hrun := run_append_owned_none (P := P) (w := w) base t o.type e i 1 ht hi _ n xs hown
    have hK := h w (by simpa using hown) (Below.refl _ _)
    refine BigFrame.wpList_want hw fun K hK' => ?_
    unfold Oper.wp
    simp [execOp, ho, resolve, invoke, builtin, hs, hx, hrun, Result.andThen]
    exact hK' _ _ hK
theorem concat2_any (g : Nat) (ao bo : Option Addr) (n m cap cb : Nat) (l k : List Int) (w : World) (hg : g < w.heap.size) (c0 : w.cell? ⟨g, 0, none⟩ = some (.slice ao n cap)) (c1 : w.cell? ⟨g, 1, none⟩ = some (.slice bo m cb)) (h0 : Row .i64 w ao n cap l) (h1 : Row .i64 w bo m cb k) (hs : (n + m) * 8 ≤ 281474976710656) (hp : 0 < n + m) (hn : n * 8 ≤ 140737488355328) (hm : m * 8 ≤ 140737488355328) :
    Calls Try.prog 18 #[.slice (some ⟨g, 0, none⟩) 2 2] w fun e w' => ∃ a c, e = .returned (.slice a (n + m) c) ∧ w'.ownsRow w.heap.size 3 1 (.slice a (n + m) c) (n + m) ((l ++ k).map (Value.int .i64)) ∧ KO w w' := by
  obtain ⟨ii, hii, hy0, hy1, hy2⟩ := info_parts infoInt
  have HII : Hid (Try.prog.info? 3 = some ii) := hii
  have HY0 := hide hy0
  have HY1 := hide hy1
  have HY2 := hide hy2
  have HG := hide (grow0_any (n + m) hp hs w)
  have H0 := hide h0
  have H1 := hide h1
  have HGS := hide hg
  have C0 := hide c0
  have C1 := hide c1
  have hsum : ((n + m : Nat) : Int) = (n : Int) + (m : Int) := by omega
  rw [hsum] at HG
  have hb1 : (n : Int) + (m : Int) ≤ 35184372088832 := by omega
  have hb2 : ¬ (n : Int) + (m : Int) < 0 := by omega
  have hb3 : ¬ (n : Int) < 0 := by omega
  clear hii hy0 hy1 hy2 h0 h1 hsum
  go_enter Try.func18, Try.ntmps18
  go_wp2
  refine wp_loop_rounds 3 ?_
  rw [rounds_succ]
  go_wp2
  rw [rounds_succ]
  go_wp2
  rw [rounds_succ]
  go_wp2_with (go_at_call 26; refine HG.out.mono ?_; rintro e w1 ⟨c, rfl, hc, ho1, hk1⟩)
  have d0 := (Below.cell hk1 (by exact HGS.out)).trans C0.out
  have d1 := (Below.cell hk1 (by exact HGS.out)).trans C1.out
  have O1 := hide ho1
  have K1 := hide hk1
  clear ho1 hk1 c0 c1
  go_wp2
  have R0 := hide (H0.out.below K1.out)
  refine wp_loop_rounds 3 ?_
  rw [rounds_succ]
  go_wp2_with (at_builtin; refine wpList_append_into _ rfl (.tmp 31) (.tmp 32) 22 rfl w.heap.size 3 ii (.int .i64 0) Try.underlying22 HII.out HY0.out HY1.out HY2.out rfl w.heap.size 0 c [] rfl O1.out (by omega) K1.out.size .i64 ao n cap l rfl R0.out (by omega) ?_)
  intro w2 ho2 hb2'
  have K2 := hide (show KO w w2 from Below.trans K1.out hb2')
  have e1 := (Below.cell K2.out (by exact HGS.out)).trans C1.out
  have R1 := hide (H1.out.below K2.out)
  have O2 := hide ho2
  clear ho2 hb2' d0 d1
  go_wp2
  rw [rounds_succ]
  go_wp2_with (at_builtin; refine wpList_append_into _ rfl (.tmp 31) (.tmp 32) 22 rfl w.heap.size 3 ii (.int .i64 0) Try.underlying22 HII.out HY0.out HY1.out HY2.out rfl w.heap.size n c _ rfl O2.out (by omega) K2.out.size .i64 bo m cb k rfl R1.out (by omega) ?_)
  intro w3 ho3 hb3'
  have K3 := hide (show KO w w3 from Below.trans K2.out hb3')
  have O3 := hide ho3
  clear ho3 hb3' e1
  go_wp2
  rw [rounds_succ]
  go_wp2
  go_ret
  have h9 := O3.out
  rw [← List.map_append] at h9
  exact ⟨_, _, rfl, h9, K3.out⟩
end Go.Proofs.Ytbbhefiibcbbfaa
