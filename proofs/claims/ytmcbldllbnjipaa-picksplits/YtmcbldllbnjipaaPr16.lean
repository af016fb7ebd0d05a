/- Runs: the columns of a range, by contract. -/
import Derived.Test.YtmcbldllbnjipaaMk16
import Derived.Test.YtmcbldllbnjipaaPi16
import Derived.Test.YtmcbldllbnjipaaOz13
namespace Go.Proofs.Ytmcbldllbnjipaa
open Go.RowKit Go.Shelf
set_option linter.unusedVariables false
set_option maxHeartbeats 1000000
set_option maxRecDepth 100000
attribute [local go_sem] Oper.semAt_some
theorem pair_new16 {X0 X : World} {a b : Value} {t : TypeId} (h : ∀ k, X0.heap.size ≤ k → X.heap[k]? = (X0.alloc (.cells #[a, b] t)).heap[k]?) : X.heap[X0.heap.size]? = some (.cells #[a, b] t (0, 0)) := by
  rw [h _ (Nat.le_refl _)]; exact World.alloc_heap_new X0 _
theorem cell_of_two16 {X : World} {g : Nat} {a b : Value} {t : TypeId} (h : X.heap[g]? = some (.cells #[a, b] t (0, 0))) (j : Nat) : X.cell? ⟨g, j, none⟩ = (#[a, b] : Array Value)[j]? := by
  simp [World.cell?, h]
theorem owns_ch16 {B : Nat} {X Y : World} {base e size n : Nat} {v : Value} {xs : List Value} (h : X.ownsRow base e size v n xs) (hc : Ch true B X Y) : Y.ownsRow base e size v n xs := by
  refine ⟨h.1, ?_⟩
  rcases h.2 with hn | ⟨g, cap, cur, rfl, hbs, hg, rest⟩
  · exact .inl hn
  · exact .inr ⟨g, cap, cur, rfl, hbs, hc.cells rfl _ _ hg rfl, rest⟩
/-- What Runs answers. -/
def PRA (l : List Int) (f t : Int) (R : List (Nat × Nat)) (E : Int) : Prop :=
  (Od.Fo l ∧ (0 ≤ f ∧ t ≤ (l.length : Int) ∧ f ≤ t) ∧ R = Pk.RU (Pk.qc (Od.ON l) f t) (Od.ON l).length ∧ E = 0) ∨ (¬ Od.Fo l ∧ R = [] ∧ E = 2) ∨ (Od.Fo l ∧ ¬ (0 ≤ f ∧ t ≤ (l.length : Int) ∧ f ≤ t) ∧ R = [] ∧ E = 4)
theorem PRA_some (l : List Int) (f t : Int) : ∃ R E, PRA l f t R E := by
  by_cases h : Od.Fo l
  · by_cases h2 : 0 ≤ f ∧ t ≤ (l.length : Int) ∧ f ≤ t
    · exact ⟨_, _, .inl ⟨h, h2, rfl, rfl⟩⟩
    · exact ⟨_, _, .inr (.inr ⟨h, h2, rfl, rfl⟩)⟩
  · exact ⟨_, _, .inr (.inl ⟨h, rfl, rfl⟩)⟩
theorem PRA_len {l : List Int} {f t : Int} {R : List (Nat × Nat)} {E : Int} (h : PRA l f t R E) : 2 * R.length ≤ l.length + 1 := by
  rcases h with ⟨_, _, h, _⟩ | ⟨_, h, _⟩ | ⟨_, _, h, _⟩
  · have h1 := Pk.RU_len (q := Pk.qc (Od.ON l) f t) (m := (Od.ON l).length)
    have h2 := Od.K_le l
    rw [h]
    rw [Od.ON_len, Od.OD_len] at h1 ⊢
    omega
  · rw [h]; simp
  · rw [h]; simp
/-- What Runs keeps while it ranges. -/
structure RMid (w : World) (s : Nat) (ao : Option Addr) (n cap : Nat) (f t : Int) (pre : List (Nat × Nat)) (W : World) : Prop where
  row : ∃ v, Boxed W s 24 v ∧ W.ownsRow s 39 2 v pre.length (flat2 pre)
  b1 : Boxed W (s + 1) 22 (.slice ao n cap)
  b2 : Boxed W (s + 2) 3 (.int .i64 f)
  b3 : Boxed W (s + 3) 3 (.int .i64 t)
  old : Below s w W
theorem RMid.ch {w : World} {s : Nat} {ao : Option Addr} {n cap : Nat} {f t : Int} {pre : List (Nat × Nat)} {X Y : World} {B : Nat} (h : RMid w s ao n cap f t pre X) (hc : Ch true B X Y) (hB : s ≤ B) : RMid w s ao n cap f t pre Y := by
  obtain ⟨v, hb, ho⟩ := h.row
  exact ⟨⟨v, hc.cells rfl _ _ hb rfl, owns_ch16 ho hc⟩, hc.cells rfl _ _ h.b1 rfl, hc.cells rfl _ _ h.b2 rfl, hc.cells rfl _ _ h.b3 rfl, h.old.trans (hc.below.mono hB)⟩
theorem pruns_bad (ao : Option Addr) (n cap : Nat) (l : List Int) (f t : Int) (w : World) (h : Row .i64 w ao n cap l) (hn : n * 8 ≤ 140737488351232) (E : Int) (hA : PRA l f t [] E) (hE : ¬ E = 0) :
    Calls Try.prog 10 #[.slice ao n cap, .int .i64 f, .int .i64 t] w fun e w' => e = .returned (.tuple #[.slice none 0 0, .int .i64 E]) ∧ KO w w' := by
  have hl := h.len
  rcases hA with ⟨_, _, _, h0⟩ | ⟨hf, _, rfl⟩ | ⟨hf, hr, _, rfl⟩
  · exact absurd h0 hE
  · have HO := hide (order_any ao n cap l w h (by omega) [] 2 (.inr ⟨hf, rfl, rfl⟩))
    simp only [List.length_nil] at HO
    clear h hf hE
    go_enter Try.func10, Try.ntmps10
    go_wp2_with fail
    refine HO.out.mono ?_
    rintro e w1 ⟨a1, c1, rfl, hr1, hk1⟩
    have K1 := hide hk1
    clear hr1 hk1 HO
    go_wp2
    go_ret2
    exact ⟨rfl, K1.out⟩
  · have HO := hide (order_any ao n cap l w h (by omega) (Od.ON l) 0 (.inl ⟨hf, rfl, rfl⟩))
    rw [hl] at hr
    clear h hf hE hl
    generalize Od.ON l = L at *
    have hor : f < 0 ∨ (¬ f < 0 ∧ (n : Int) < t) ∨ (¬ f < 0 ∧ ¬ (n : Int) < t ∧ t < f) := by omega
    clear hr
    rcases hor with h1 | ⟨h1, h2⟩ | ⟨h1, h2, h3⟩
    all_goals (
      go_enter Try.func10, Try.ntmps10
      go_wp2_with fail
      refine HO.out.mono ?_
      rintro e w1 ⟨a1, c1, rfl, hr1, hk1⟩
      have K1 := hide hk1
      clear hr1 hk1 HO
      go_wp2
      go_ret2
      exact ⟨rfl, K1.out⟩)
theorem pruns_ok (ao : Option Addr) (n cap : Nat) (l : List Int) (f t : Int) (w : World) (h : Row .i64 w ao n cap l) (hn : n * 8 ≤ 140737488351232) (R : List (Nat × Nat)) (hA : PRA l f t R 0) :
    Calls Try.prog 10 #[.slice ao n cap, .int .i64 f, .int .i64 t] w fun e w' => ∃ a c, e = .returned (.tuple #[.slice a R.length c, .int .i64 0]) ∧ Pairs w' a R.length c R ∧ KO w w' := by
  have hl := h.len
  have hRl := PRA_len hA
  rw [hl] at hRl
  obtain ⟨hf, ⟨hr1, hr2, hr3⟩, hR⟩ : Od.Fo l ∧ (0 ≤ f ∧ t ≤ (l.length : Int) ∧ f ≤ t) ∧ R = Pk.RU (Pk.qc (Od.ON l) f t) (Od.ON l).length := by
    rcases hA with ⟨h1, h2, h3, _⟩ | ⟨_, _, h0⟩ | ⟨_, _, _, h0⟩
    · exact ⟨h1, h2, h3⟩
    · cases h0
    · cases h0
  rw [hl] at hr2
  have HO := hide (order_any ao n cap l w h (by omega) (Od.ON l) 0 (.inl ⟨hf, rfl, rfl⟩))
  have h1 : ¬ f < 0 := by omega
  have h2 : ¬ (n : Int) < t := by omega
  have h3 : ¬ t < f := by omega
  obtain ⟨L, hL⟩ : ∃ L, Od.ON l = L := ⟨_, rfl⟩
  obtain ⟨k, hk⟩ : ∃ k, L.length = k := ⟨_, rfl⟩
  rw [hL] at HO hR
  rw [hk] at HO hR
  have HR := hide hR
  have HRL : Hid (R.length * 16 ≤ 140737488355328) := hide (by omega)
  obtain ⟨ie, hie, hz0, hz1, hz2⟩ := info_parts pairInfo
  have HI : Hid (Try.prog.info? 39 = some ie) := hie
  have HZ0 := hide hz0
  have HZ1 := hide hz1
  have HZ2 := hide hz2
  clear h hA hf hR hL hk hr1 hr2 hr3 hie hz0 hz1 hz2 hRl hn hl
  refine (callsIn_wide (n := 3)).1 ?_
  refine callsIn_of_wp_marks Try.func10 rfl trivial ?_
  simp only [Try.ntmps10, List.size_toArray, List.length_cons, List.length_nil, Nat.reduceAdd, Nat.reduceSub, Array.replicate_succ, Array.replicate_zero, List.push_toArray, List.append_toArray, List.nil_append, List.cons_append]
  gi_wp2_with fail
  refine ⟨trivial, ?_⟩
  refine (callsIn_wide.2 HO.out).mono ?_
  rintro e w1 ⟨a1, c1, rfl, hrow, hk1⟩
  obtain ⟨V, hV⟩ : ∃ V, w1.alloc (Obj.cells #[Value.slice none 0 0] 24) = V := ⟨_, rfl⟩
  have HVS : Hid (V.heap.size = w1.heap.size + 1) := hide (by rw [← hV]; simp)
  have HBI : Hid (Boxed V w1.heap.size 24 (.slice none 0 0)) := hide (by rw [← hV]; exact Boxed.new w1 _ _)
  have HKV : Hid (Below w1.heap.size w1 V) := hide (by rw [← hV]; exact (Below.refl _ w1).alloc (Nat.le_refl _) _)
  have K1 := hide hk1
  have HROW := hide hrow
  clear hk1 hrow HO
  gi_wp2_with fail
  clear hV
  refine ⟨trivial, ?_⟩
  refine (callsIn_wide.2 (marked_any a1 k c1 f t V)).mono ?_
  rintro e w' ⟨rfl, hw'⟩
  have hVs := HVS.out
  obtain ⟨s, hs⟩ : ∃ s, w1.heap.size = s := ⟨_, rfl⟩
  rw [hs] at hVs
  have h0 : RMid w1 s a1 k c1 f t [] w' := by
    have e1 : (V.alloc (Obj.cells #[Value.slice a1 k c1] 22)).heap.size = s + 2 := by simp; omega
    have e2 : ((V.alloc (Obj.cells #[Value.slice a1 k c1] 22)).alloc (Obj.cells #[Value.int .i64 f] 3)).heap.size = s + 3 := by simp; omega
    have b1 : Boxed (V.alloc (Obj.cells #[Value.slice a1 k c1] 22)) (s + 1) 22 (.slice a1 k c1) := by rw [← hVs]; exact Boxed.new V _ _
    have b2 : Boxed ((V.alloc (Obj.cells #[Value.slice a1 k c1] 22)).alloc (Obj.cells #[Value.int .i64 f] 3)) (s + 2) 3 (.int .i64 f) := by rw [← e1]; exact Boxed.new _ _ _
    have b3 : Boxed (((V.alloc (Obj.cells #[Value.slice a1 k c1] 22)).alloc (Obj.cells #[Value.int .i64 f] 3)).alloc (Obj.cells #[Value.int .i64 t] 3)) (s + 3) 3 (.int .i64 t) := by rw [← e2]; exact Boxed.new _ _ _
    rw [hw']
    have hbI := HBI.out
    have hkV := HKV.out
    rw [hs] at hbI hkV
    refine ⟨⟨_, ((hbI.alloc _).alloc _).alloc _, World.ownsRow_nil _ _ _ _⟩, (b1.alloc _).alloc _, b2.alloc _, b3, ?_⟩
    exact Below.alloc (Below.alloc (Below.alloc hkV (by omega) _) (by omega) _) (by omega) _
  have hws : w'.heap.size = s + 4 := by rw [hw']; simp; omega
  have HROW2 : Hid (∀ pre X, RMid w1 s a1 k c1 f t pre X → MO (s + 1) (s + 2) (s + 3) a1 k c1 L f t X) := hide (fun pre X h => ⟨h.b1.cell, h.b2.cell, h.b3.cell, HROW.out.below (by have := h.old; rw [← hs] at this; exact this)⟩)
  rw [hVs]
  clear hw' HVS HBI HKV hVs
  have HWS := hide hws
  have H00 := hide h0
  have HSS := hide hs
  clear hws h0
  gi_wp2_with fail
  refine wpIn_rangeC (gf := 27) (lb := #[.pointer (some ⟨s + 1, 0, none⟩), .pointer (some ⟨s + 2, 0, none⟩), .pointer (some ⟨s + 3, 0, none⟩)]) rfl (enters_of Try.func27 (by kernel_rfl) rfl) (marked1_far (s + 1) (s + 2) (s + 3) a1 k c1 L f t) (fun _ => rfl)
    (fun pre X => RMid w1 s a1 k c1 f t pre X) (fun c pre X => False) HROW2.out
    (fun pre X Y h hc => h.ch hc (by have := HWS.out; omega)) (fun c pre X Y h hc => h.elim) H00.out
    ?fr
    (fun x X => X.alloc (.cells #[.int .i64 (x.1 : Int), .int .i64 (x.2 : Int)] 39)) (fun x X => (Below.refl _ _).alloc (Nat.le_refl _) _) ?assign ?body ?done ?stop
  case assign =>
    intro m l x W K hK
    unfold encRun
    gi_wp2
    exact hK
  case body =>
    rw [← HR.out]
    rintro m y pre x X0 X hM hpre hXs hnew hsz
    have hblk := pair_new16 hnew
    have hXX : X0.heap.size < X.heap.size := by rw [hsz]; simp
    have c0 := cell_of_two16 hblk 0
    have c1 := cell_of_two16 hblk 1
    obtain ⟨p, q⟩ := x
    have hkl : (pre.length + 1) * 16 ≤ 140737488355328 := by
      have h1 := hpre.length_le
      rw [List.length_append] at h1
      have := HRL.out
      simp at h1; omega
    obtain ⟨v, hbx, hown⟩ := hM.row
    have cb := hbx.cell
    have fb := hbx.frozen
    have hbo := build_pair1
    have HM := hide hM
    have HBX := hide hbx
    have HOWN := hide hown
    have HKL := hide hkl
    have HXLT := hide (show s + 4 ≤ X0.heap.size from by have := HWS.out; omega)
    have HXX := hide hXX
    have HLT := hide (show s ≤ X.heap.size from by have := HWS.out; omega)
    generalize hQ : rPostC _ _ _ _ X = Q
    have HQ := hide hQ
    clear hQ hM hpre hXs hnew hsz hkl hblk hbx hown hXX
    gi_wp2_with (gi_at_builtin; refine wpListIn_append_own _ rfl _ _ 24 rfl s 39 ie _ 2 16 Try.underlying24 HI.out HZ0.out HZ1.out HZ2.out rfl (by decide) v pre.length (flat2 pre) rfl (HOWN.out.alloc _) ⟨X.heap.size, 0, none⟩ 1 1 [.int .i64 (p : Int), .int .i64 (q : Int)] rfl rfl (two_new X _ _ _) (by simp [Value.oneCell']) (by unfold maxLen; have := HKL.out; omega) (by have := HKL.out; omega) (by simp; have := HLT.out; omega) ?_; intro v' w3 hown3 hg3 hn3; obtain ⟨g', cap', hv'⟩ := ownsRow_succ hown3; have ha := HBX.out.appended (by decide) HOWN.out HLT.out (Nat.le_refl _) hown3 hg3; have c3 := ha.1.cell; have f3 := ha.1.frozen; subst hv')
    rw [← HQ.out]
    have hm := HM.out
    refine ⟨Far.of_others ha.2.2.2.1, ⟨_, ha.2.1, ?_⟩, ?_, ?_, ?_, hm.old.trans ha.2.2.2.2⟩
    · rw [List.length_append, flat2_snoc]; exact ha.2.2.1
    · exact ((hm.b1.alloc _).kept hg3 (hm.b1.not_row (by decide) HOWN.out)).other (by omega) _
    · exact ((hm.b2.alloc _).kept hg3 (hm.b2.not_row (by decide) HOWN.out)).other (by omega) _
    · exact ((hm.b3.alloc _).kept hg3 (hm.b3.not_row (by decide) HOWN.out)).other (by omega) _
  case done =>
    rw [← HR.out]
    rintro D W hD hWs hM hK
    obtain ⟨v, hbx, hown⟩ := hM.row
    obtain ⟨a2, c2, rfl, hp⟩ := pairs_of_owns hown
    have cb := hbx.cell
    have HM := hide hM
    have HD := hide hD
    have HOWN := hide hown
    clear hM hD hWs hown hbx hp
    gi_wp2_with fail
    refine ⟨by simp, .inl ⟨_, _, rfl, run_takeDeferred hK, ?_⟩⟩
    have hDD : s + 4 ≤ D := by have := HD.out; have := HWS.out; omega
    refine ⟨_, results_tmp2 rfl _ _ _, a2, c2, rfl, ?_, ?_⟩
    · obtain ⟨a3, c3, e3, hp⟩ := pairs_of_owns (ownsRow_putObj HOWN.out (.deferred none) hK rfl)
      simp only [Value.slice.injEq] at e3
      obtain ⟨rfl, _, rfl⟩ := e3
      exact hp
    · have h5 := HM.out.old
      have h6 := HSS.out
      rw [← h6] at h5
      exact KO.on K1.out (h5.trans (below_put (by omega) _))
  case stop =>
    rintro D c pre W hD hWs hpre hM hK
    exact hM.elim
theorem pruns_any (ao : Option Addr) (n cap : Nat) (l : List Int) (f t : Int) (w : World) (h : Row .i64 w ao n cap l) (hn : n * 8 ≤ 140737488351232) (R : List (Nat × Nat)) (E : Int) (hA : PRA l f t R E) :
    Calls Try.prog 10 #[.slice ao n cap, .int .i64 f, .int .i64 t] w fun e w' => ∃ a c, e = .returned (.tuple #[.slice a R.length c, .int .i64 E]) ∧ Pairs w' a R.length c R ∧ KO w w' := by
  by_cases hE : E = 0
  · subst hE
    exact pruns_ok ao n cap l f t w h hn R hA
  · have hR : R = [] := by
      rcases hA with ⟨_, _, _, h0⟩ | ⟨_, h0, _⟩ | ⟨_, _, h0, _⟩
      · exact absurd h0 hE
      · exact h0
      · exact h0
    subst hR
    refine (pruns_bad ao n cap l f t w h hn E hA hE).mono ?_
    rintro e w' ⟨rfl, hk⟩
    exact ⟨none, 0, rfl, pairs_nil _, hk⟩
end Go.Proofs.Ytmcbldllbnjipaa
