/- PickPlaces: which places stand in columns is as the document has it. -/
import Derived.Test.YtmcbldllbnjipaaRv16
import Derived.Test.YtmcbldllbnjipaaWk16
namespace Go.Proofs.Ytmcbldllbnjipaa
open Go.RowKit
set_option linter.unusedVariables false
set_option maxHeartbeats 1000000
set_option maxRecDepth 100000
/-- An append of a whole list of pairs to what the call owns: the list is nil or not. -/
theorem wp_append_pi {P : Program} (w : World) {o : Oper} {a : Act} {K : Act → World → Prop} {Q : Exit → Act → World → Prop} (s x : Operand) (t : TypeId)
    (ho : o.op = .call { callee := .builtin .append, args := #[s, x], argTypes := #[t, t] })
    (base : Nat) (e : TypeId) (i : TypeInfo) (z : Value) (ht : P.underlying t = some (.slice e)) (hi : P.info? e = some i) (hz : i.zero = some z)
    (hsize : i.size = 2) (hby : i.bytes = 16) (hzs : z.cells.size = 2)
    (v : Value) (n : Nat) (xs : List Value) (hs : a.eval s = v) (hown : w.ownsRow base e 2 v n xs)
    (ao : Option Addr) (m c : Nat) (Z : List (Int × Int)) (hx : a.eval x = .slice ao m c) (hrow : PI w ao m c Z)
    (hbytes : (n + m) * 16 ≤ 140737488355328) (hbase : base ≤ w.heap.size)
    (h : ∀ v' w', w'.ownsRow base e 2 v' (n + m) (xs ++ flz Z) → Below base w w' → K (a.put o.dst v') w') : o.wp P a w K Q := by
  have h63 : n + m ≤ maxLen := by unfold maxLen; omega
  have hbel : ∀ w', w.grownBy w' v.ownBlock → Below base w w' := fun w' hg => (Below.refl base w).grown hg hbase (fun j hj => (hown.lt j hj).1)
  cases ao with
  | none =>
    have hc := hrow.nil rfl
    have hm : m = 0 := by have := hrow.le; omega
    subst hc hm
    have hzs0 : Z = [] := List.length_eq_zero_iff.1 hrow.len
    subst hzs0
    have hrun := run_append_owned_none (P := P) (w := w) base t o.type e i 2 ht hi v n xs hown
    have hK := h v w (by simpa [flz] using hown) (Below.refl _ _)
    unfold Oper.wp
    simp [execOp, ho, resolve, invoke, builtin, hs, hx, hrun, Result.andThen]
    exact hK
  | some ad =>
    obtain ⟨b, off, spot⟩ := ad
    exact wp_append_own w s x t ho base e i z 2 16 ht hi hz hsize hby hzs (by decide) v n xs hs hown _ m c (flz Z) hx (by rw [flz_len, hrow.len]) hrow.news (flz_one Z) h63 hbytes hbase (fun v' w' h1 h2 _ => h v' w' h1 (hbel w' h2))
theorem wpList_append_pi {P : Program} (w : World) {ops : Array Oper} {rest : List Oper} {o : Oper} {a : Act} {Q : Exit → Act → World → Prop} (hw : Region.wanted o (yielded ops a.tmps) = true) (s x : Operand) (t : TypeId)
    (ho : o.op = .call { callee := .builtin .append, args := #[s, x], argTypes := #[t, t] })
    (base : Nat) (e : TypeId) (i : TypeInfo) (z : Value) (ht : P.underlying t = some (.slice e)) (hi : P.info? e = some i) (hz : i.zero = some z)
    (hsize : i.size = 2) (hby : i.bytes = 16) (hzs : z.cells.size = 2)
    (v : Value) (n : Nat) (xs : List Value) (hs : a.eval s = v) (hown : w.ownsRow base e 2 v n xs)
    (ao : Option Addr) (m c : Nat) (Z : List (Int × Int)) (hx : a.eval x = .slice ao m c) (hrow : PI w ao m c Z)
    (hbytes : (n + m) * 16 ≤ 140737488355328) (hbase : base ≤ w.heap.size)
    (h : ∀ v' w', w'.ownsRow base e 2 v' (n + m) (xs ++ flz Z) → Below base w w' → wpList P ops Q rest (a.put o.dst v') w') : wpList P ops Q (o :: rest) a w :=
  BigFrame.wpList_want hw fun K hK => wp_append_pi w s x t ho base e i z ht hi hz hsize hby hzs v n xs hs hown ao m c Z hx hrow hbytes hbase fun v' w' h1 h2 => hK _ _ (h v' w' h1 h2)
theorem owns_empty2 (w : World) (e : TypeId) (b : Nat) (hb : w.heap.size = b) : (w.alloc (.cells #[] e)).ownsRow b e 2 (.slice (some ⟨b, 0, none⟩) 0 0) 0 [] := by
  subst hb
  exact ⟨rfl, .inr ⟨w.heap.size, 0, #[], rfl, Nat.le_refl _, World.alloc_heap_new w _, Nat.le_refl _, Nat.zero_le _, rfl, rfl⟩⟩
theorem PickPlaces_walk (w : World) (a0 : Option Addr) (n0 cap0 : Nat) (l : List Int) (h0 : Row .i64 w a0 n0 cap0 l) (hf0 : ∀ x ∈ l, (Lit.int .i64 x).wf = true) (hs0 : n0 * 8 ≤ 140737488351232) (a1 : Option Addr) (n1 cap1 : Nat) (Z : List (Int × Int)) (h1 : PI w a1 n1 cap1 Z) (hf1 : ∀ k, (Lit.int .i64 (Z.getD k (0, 0)).1).wf = true ∧ (Lit.int .i64 (Z.getD k (0, 0)).2).wf = true) :
    Calls Try.prog 4 #[.slice a0 n0 cap0, .slice a1 n1 cap1] w fun e w' => e = .returned (.bool true) ∧ Below w.heap.size w w' := by
  have HW := hide (fun w' => works16_any w')
  obtain ⟨ie, hie, hz0, hz1, hz2⟩ := info_parts pairInfo
  have HI : Hid (Try.prog.info? 39 = some ie) := hie
  have HZ0 := hide hz0
  have HZ1 := hide hz1
  have HZ2 := hide hz2
  have hle1 := h1.le
  have hmx1 := h1.max
  unfold maxLen at hmx1
  by_cases hbig : 60 < n0
  · have hb1 : (60 : Int) < (n0 : Int) := by omega
    clear h0 hf0 h1 hf1
    go_enter Try.func4, Try.ntmps4
    go_wp2_with fail
    refine (HW.out _).mono ?_
    rintro e w1 ⟨rfl, hk1⟩
    have K1 := hide hk1
    clear hk1
    go_wp2
    go_ret
    exact ⟨rfl, K1.out⟩
  · have hb1 : ¬ (60 : Int) < (n0 : Int) := by omega
    by_cases hbig2 : 60 < n1
    · have hb2 : (60 : Int) < (n1 : Int) := by omega
      clear h0 hf0 h1 hf1
      go_enter Try.func4, Try.ntmps4
      go_wp2_with fail
      refine (HW.out _).mono ?_
      rintro e w1 ⟨rfl, hk1⟩
      have K1 := hide hk1
      clear hk1
      go_wp2
      go_ret
      exact ⟨rfl, K1.out⟩
    · have hb2 : ¬ (60 : Int) < (n1 : Int) := by omega
      obtain ⟨P, E, hA⟩ := QA_some l Z
      have HO := hide (fun (ao : Option Addr) (cap : Nat) (w' : World) (hk : KO w w') (h : PI w' ao n1 cap Z) => pplaces_any a0 ao n0 n1 cap0 cap l Z w' (h0.below hk) h hs0 P E hA)
      have HR := hide (fun (w' : World) (hk : KO w w') => rpplaces_any a0 a1 n0 n1 cap0 cap1 l Z w' (h0.below hk) (h1.below hk) (by omega) (by omega) P E hA)
      have H1 := hide h1
      have K0 := hide (KO.alloc (KO.refl w) (.cells #[] 39))
      have R0 := hide (h1.below (KO.alloc (KO.refl w) (.cells #[] 39)))
      have OE := hide (owns_empty2 w 39 w.heap.size rfl)
      clear h0 hf0 hA hie hz0 hz1 hz2 h1 hf1
      go_enter Try.func4, Try.ntmps4
      go_wp2_with (at_builtin; refine wpList_append_pi _ rfl (.tmp 19) (.tmp 20) 24 rfl w.heap.size 39 ie _ Try.underlying24 HI.out HZ0.out HZ1.out HZ2.out rfl _ 0 [] rfl OE.out _ n1 cap1 Z rfl R0.out (by omega) (by simp) ?_)
      intro v2 w2 ho2 hb2'
      obtain ⟨ao, co, ev, hr2⟩ := pi_of_owns ho2
      subst ev
      have K2 := hide (show KO w w2 from Below.trans K0.out hb2')
      have HO2 := hide (HO.out ao co w2 K2.out hr2)
      have R2 := hide hr2
      clear ho2 hb2' hr2 HO
      go_wp2_with fail
      refine HO2.out.mono ?_
      rintro e w3 ⟨a3, c3, rfl, hr3, hk3⟩
      have K3 := hide hk3
      have R3 := hide hr3
      have HR3 := hide (HR.out w3 (KO.on K2.out hk3))
      clear hr3 hk3 HO2 HR
      go_wp2_with fail
      refine HR3.out.mono ?_
      rintro e w4 ⟨a4, c4, rfl, hr4, hk4⟩
      have K4 := hide hk4
      have HI1 := hide (ints_yes a3 a4 P.length c3 c4 P w4 (R3.out.below hk4) hr4)
      clear hr4 hk4 HR3
      generalize P.length = nl at *
      go_wp2_with fail
      refine HI1.out.mono ?_
      rintro e w5 ⟨rfl, hd5⟩
      have K5 := hide (show KO w4 w5 from below_of_drewN hd5)
      have KA := hide (KO.on K3.out (KO.on K4.out K5.out))
      have HI2 := hide (pi_same ao a1 n1 co cap1 Z w5 (R2.out.below KA.out) (H1.out.below (KO.on K2.out KA.out)))
      have hee : (E == E) = true := by simp
      clear hd5 HI1
      go_wp2_with fail
      refine HI2.out.mono ?_
      rintro e w6 ⟨rfl, hd6⟩
      have K6 := hide (show KO w5 w6 from below_of_drewN hd6)
      clear hd6 HI2
      go_wp2_with fail
      refine (HW.out _).mono ?_
      rintro e w7 ⟨rfl, hk7⟩
      have K7 := hide hk7
      clear hk7
      go_wp2
      go_ret
      exact ⟨rfl, KO.on K2.out (KO.on KA.out (KO.on K6.out K7.out))⟩
end Go.Proofs.Ytmcbldllbnjipaa
