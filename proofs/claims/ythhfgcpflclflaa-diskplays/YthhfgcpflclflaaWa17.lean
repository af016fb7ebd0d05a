/- The program's disk: Waits. -/
import Derived.Test.YthhfgcpflclflaaSe17
namespace Go.Proofs.Ythhfgcpflclflaa
open Go.RowKit Go.Shelf
set_option linter.unusedVariables false
set_option maxHeartbeats 1000000
set_option maxRecDepth 100000
attribute [local go_sem] Oper.semAt_some
theorem int17Info : (Try.prog.info? 3).map (fun i => (i.zero, i.size, i.bytes)) = some (some (.int .i64 0), 1, 8) := by kernel_rfl
theorem one17 (w : World) (a : Value) (t : TypeId) : ∀ (j : Nat) (u : Value), [a][j]? = some u → (w.alloc (.cells #[a] t)).cell? ((⟨w.heap.size, 0, none⟩ : Addr).add j) = some u := fun j u hj => by
  have hadd : (⟨w.heap.size, 0, none⟩ : Addr).add j = ⟨w.heap.size, j, none⟩ := by unfold Addr.add; split <;> simp_all
  rw [hadd, World.cell?_alloc_mark, ← hj]
  simp
theorem owns_ch17 {B : Nat} {X Y : World} {base e size n : Nat} {v : Value} {xs : List Value} (h : X.ownsRow base e size v n xs) (hc : Ch true B X Y) : Y.ownsRow base e size v n xs := by
  refine ⟨h.1, ?_⟩
  rcases h.2 with hn | ⟨g, cap, cur, rfl, hbs, hg, rest⟩
  · exact .inl hn
  · exact .inr ⟨g, cap, cur, rfl, hbs, hc.cells rfl _ _ hg rfl, rest⟩
/-- The numbers of what waits. -/
def nums (ws : List (Nat × List Int)) : List Int := ws.map fun x => (x.1 : Int)
/-- What the telling of what waits keeps. -/
structure WM (w : World) (g : Nat) (pre : List (Nat × List Int)) (X : World) : Prop where
  row : ∃ v, Boxed X w.heap.size 34 v ∧ X.ownsRow w.heap.size 3 1 v pre.length ((nums pre).map (Value.int .i64))
  box : Boxed X (w.heap.size + 1) 23 (.pointer (some ⟨g, 0, none⟩))
  old : KO w X
theorem WM.ch {w : World} {g : Nat} {pre : List (Nat × List Int)} {X Y : World} {B : Nat} (h : WM w g pre X) (hc : Ch true B X Y) (hB : w.heap.size ≤ B) : WM w g pre Y := by
  obtain ⟨v, hb, ho⟩ := h.row
  exact ⟨⟨v, hc.cells rfl _ _ hb rfl, owns_ch17 ho hc⟩, hc.cells rfl _ _ h.box rfl, h.old.trans (hc.below.mono hB)⟩
theorem pwaits_any (w : World) (g gl cl : Nat) (vw : Value) (d : Dk.Ds) (h : PD17 w g gl cl vw d) (hwb : d.waits.length * 8 ≤ 140737488355328) :
    Calls Try.prog 22 #[.pointer (some ⟨g, 0, none⟩)] w fun e w' => ∃ a c, e = .returned (.slice a d.waits.length c) ∧ Row .i64 w' a d.waits.length c (nums d.waits) ∧ KO w w' := by
  have HST := hide (pstands_any w g gl cl vw d h)
  obtain ⟨aw, cw, hvw, hle, hcw, hrow⟩ := h.waitO
  have H := hide h
  have HROW := hide hrow
  have HXL := hide (waits_len h.wf)
  have HLE := hide hle
  have HCW := hide hcw
  have HVW := hide hvw
  have HWB := hide hwb
  have hgs := (Array.getElem?_eq_some_iff.1 h.disk).1
  obtain ⟨ie, hie, hz0, hz1, hz2⟩ := info_parts int17Info
  have HI : Hid (Try.prog.info? 3 = some ie) := hie
  have HZ0 := hide hz0
  have HZ1 := hide hz1
  have HZ2 := hide hz2
  clear h hrow hle hcw hvw hwb hie hz0 hz1 hz2
  refine (callsIn_wide (n := 3)).1 ?_
  refine callsIn_of_wp_marks Try.func22 rfl trivial ?_
  simp only [Try.ntmps22, List.size_toArray, List.length_cons, List.length_nil, Nat.reduceAdd, Nat.reduceSub, Array.replicate_succ, Array.replicate_zero, List.push_toArray, List.append_toArray, List.nil_append, List.cons_append]
  gi_wp2_with fail
  refine ⟨trivial, ?_⟩
  refine (callsIn_wide.2 HST.out).mono ?_
  rintro e w0 ⟨rfl, rfl⟩
  obtain ⟨V, hV⟩ : ∃ V, w.alloc (Obj.cells #[Value.slice none 0 0] 34) = V := ⟨_, rfl⟩
  have HBI : Hid (Boxed V w.heap.size 34 (.slice none 0 0)) := hide (by rw [← hV]; exact Boxed.new w _ _)
  have HKV : Hid (KO w V) := hide (by rw [← hV]; exact KO.alloc (KO.refl w) _)
  have HVS : Hid (V.heap.size = w.heap.size + 1) := hide (by rw [← hV]; simp)
  gi_wp2_with fail
  clear hV
  refine ⟨trivial, ?_⟩
  refine (callsIn_wide.2 (waiting_any g V)).mono ?_
  rintro e w1 ⟨rfl, hw1⟩
  rw [HVS.out]
  have h0 : WM w g [] w1 := by
    subst hw1
    refine ⟨⟨_, HBI.out.alloc _, World.ownsRow_nil _ _ _ _⟩, ?_, KO.alloc HKV.out _⟩
    have := Boxed.new V 23 (.pointer (some ⟨g, 0, none⟩))
    rw [HVS.out] at this
    exact this
  have hws : w1.heap.size = w.heap.size + 2 := by rw [hw1]; simp; have := HVS.out; omega
  have HWS := hide hws
  have H0 := hide h0
  clear hw1 h0 hws
  gi_wp2_with fail
  refine wpIn_rangeC (gf := 44) (lb := #[.pointer (some ⟨w.heap.size + 1, 0, none⟩)]) rfl (enters_of Try.func44 (by kernel_rfl) rfl) (waiting1_any true Far (fun _ _ _ h => h.size) (w.heap.size + 1) g aw cw d.waits HXL.out HLE.out HCW.out) (fun _ => rfl)
    (fun pre X => WM w g pre X) (fun c pre X => False) (fun pre X hX => ⟨hX.box.cell, by rw [← HVW.out]; exact (H.out.ko hX.old).cells.2.1, HROW.out X (H.out.ko hX.old)⟩)
    (fun pre X Y hX hc => hX.ch hc (by have := HWS.out; omega)) (fun c pre X Y hX hc => hX.elim) H0.out
    ?ac
    (fun x X => X) (fun x X => Below.refl _ _) ?assign ?body ?done ?stop
  case assign =>
    intro m l x W K hK
    unfold encw
    gi_wp2
    exact hK
  case body =>
    rintro m y pre x X0 X hM hpre hXs hnew hsz
    have hkl : (pre.length + 1) * 8 ≤ 140737488355328 := by
      have h1 := hpre.length_le
      rw [List.length_append] at h1
      have := HWB.out
      simp at h1; omega
    obtain ⟨v, hbx, hown⟩ := hM.row
    have cb := hbx.cell
    have fb := hbx.frozen
    obtain ⟨av, cv', hv, _⟩ := owns_form hown
    subst hv
    have HM := hide hM
    have HBX := hide hbx
    have HOWN := hide hown
    have HKL := hide hkl
    have HLT : Hid (w.heap.size ≤ X.heap.size) := hide hM.old.size
    have HXX : Hid (w1.heap.size ≤ X.heap.size) := hide (by omega)
    generalize hQ : rPostC _ _ _ _ X = Q
    have HQ := hide hQ
    clear hQ hM hpre hXs hnew hsz hkl hbx hown
    gi_wp2_with (gi_at_builtin; refine wpListIn_append_own _ rfl _ _ 34 rfl w.heap.size 3 ie _ 1 8 Try.underlying34 HI.out HZ0.out HZ1.out HZ2.out rfl (by decide) _ pre.length _ rfl (HOWN.out.alloc _) ⟨X.heap.size, 0, none⟩ 1 1 [.int .i64 (x.1 : Int)] rfl rfl (one17 X _ _) (by simp [Value.oneCell']) (by unfold maxLen; have := HKL.out; omega) (by have := HKL.out; omega) (by simp; have := HLT.out; omega) ?_; intro v' w3 hown3 hg3 hn3; obtain ⟨g', cap', hv'⟩ := ownsRow_succ hown3; have ha := HBX.out.appended (by decide) HOWN.out HLT.out (Nat.le_refl _) hown3 hg3; have c3 := ha.1.cell; have f3 := ha.1.frozen; subst hv')
    rw [← HQ.out]
    have hm := HM.out
    refine ⟨Far.of_others ha.2.2.2.1, ⟨_, ha.2.1, ?_⟩, ?_, hm.old.trans ha.2.2.2.2⟩
    · rw [List.length_append, nums, List.map_append, List.map_append, ← nums]; exact ha.2.2.1
    · exact ((hm.box.alloc _).kept hg3 (hm.box.not_row (by decide) HOWN.out)).other (by omega) _
  case done =>
    rintro D W hD hWs hM hK
    obtain ⟨v, hbx, hown⟩ := hM.row
    obtain ⟨av, cv', hv, _⟩ := owns_form hown
    subst hv
    have cb := hbx.cell
    have HM := hide hM
    have HD := hide hD
    have HOWN := hide hown
    clear hM hD hWs hown hbx
    gi_wp2_with fail
    refine ⟨by simp, .inl ⟨_, _, rfl, run_takeDeferred hK, ?_⟩⟩
    refine ⟨_, results_tmp rfl _ _ _, av, cv', rfl, ?_, ?_⟩
    · obtain ⟨a3, c3, e3, hp⟩ := row_of_owns (ownsRow_putObj HOWN.out (.deferred none) hK rfl)
      simp only [Value.slice.injEq] at e3
      obtain ⟨rfl, _, rfl⟩ := e3
      exact hp
    · exact HM.out.old.trans (below_put (by have := HD.out; have := HWS.out; omega) _)
  case stop =>
    rintro D c pre W hD hWs hpre hM hK
    exact hM.elim
end Go.Proofs.Ythhfgcpflclflaa
