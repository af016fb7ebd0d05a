/- The program's disk: sectors copied, how many bytes are kept, a sector of which the beginning is written. -/
import Derived.Test.YthhfgcpflclflaaFl17
import Derived.Test.YthhfgcpflclflaaSlices
namespace Go.Proofs.Ythhfgcpflclflaa
open Go.RowKit
set_option linter.unusedVariables false
set_option maxHeartbeats 1000000
set_option maxRecDepth 100000
theorem sector_zsize : (Value.agg (Array.replicate 64 (Value.int .u8 0))).cells.size = 64 := by simp [Value.cells]
theorem nil_no17 (ad : Addr) (n cap : Nat) (w : World) : (binOp BinOp.eql 39 (.slice (some ad) n cap) (.slice none 0 0)).run Try.prog w = .ok (.bool false) w := by kernel_rfl
theorem pclone_any (w : World) (gl nl cl : Nat) (ls : List (List Int)) (h : CE w 64 (some ⟨gl, 0, none⟩) nl cl (lv ls)) (h0 : 0 < nl) (hb : nl * 64 ≤ 140737488355328) :
    Calls Try.prog 37 #[.slice (some ⟨gl, 0, none⟩) nl cl] w fun e w' => ∃ b c, e = .returned (.slice (some ⟨b, 0, none⟩) nl c) ∧ w'.ownsRow w.heap.size 75 64 (.slice (some ⟨b, 0, none⟩) nl c) nl (lv ls) ∧ KO w w' := by
  obtain ⟨ie, hie, hz0, hz1, hz2⟩ := info_parts sectorInfo17
  have HII : Hid (Try.prog.info? 75 = some ie) := hie
  have HZ0 := hide hz0
  have HZ1 := hide hz1
  have HZ2 := hide hz2
  have OE := hide (owns_lit0 w 75 64 w.heap.size rfl)
  have KA := hide (show KO w (w.alloc (.cells #[] 75)) from KO.alloc (KO.refl w) _)
  have HE := hide h
  have HL1 := hide (lv_one ls)
  have hnil := nil_no17 ⟨gl, 0, none⟩ nl cl w
  clear h hie hz0 hz1 hz2
  go_enter Try.func37, Try.ntmps37
  go_wp2_with (at_builtin; refine wpList_append_cells _ rfl (.tmp 5) (.tmp 6) 39 rfl w.heap.size 75 ie _ 64 64 Try.underlying39 HII.out HZ0.out HZ1.out HZ2.out sector_zsize (by decide) _ 0 [] rfl OE.out (some ⟨gl, 0, none⟩) nl cl _ rfl (HE.out.below KA.out) HL1.out (by omega) (by omega) (by simp) ?_; intro v2 w2 ho2 hg2 hb2; rw [Nat.zero_add, List.nil_append] at ho2; obtain ⟨gl2, cl2, e2, hle2, hcl2⟩ := owns_pos ho2 (by omega); subst e2)
  have HO := hide ho2
  have HK := hide (show KO w w2 from Below.trans KA.out hb2)
  clear ho2 hb2 hg2
  go_wp2
  go_ret
  exact ⟨gl2, cl2, rfl, HO.out, HK.out⟩
theorem beginning_any (w : World) (v : Int) : Calls Try.prog 39 #[.int .i64 v] w fun e w' => e = .returned (.int .i64 (Dk.kp v : Int)) ∧ w = w' := by
  have hkp : (Dk.kp v : Int) = if v < 0 then 0 else if 64 < v then 64 else v := by
    unfold Dk.kp
    split
    · rfl
    · split
      · rfl
      · omega
  go_enter Try.func39, Try.ntmps39
  go_wp2
  all_goals (
    go_ret
    exact ⟨rfl, rfl⟩)
theorem fm_part {α : Type} {f : α → List Value} {k : Nat} {l : List α} {d : α} (hf : ∀ x ∈ l, (f x).length = k) {i : Nat} {x : α} {vs : List Value} (hi : i < l.length) (hv : vs.length ≤ k) (hx : f x = vs ++ (f (l.getD i d)).drop vs.length) : sets (l.flatMap f) (i * k) vs = (l.set i x).flatMap f := by
  have hold : (f (l.getD i d)).length = k := by
    have : l.getD i d = l[i] := by simp [List.getD, hi]
    rw [this]; exact hf _ (List.getElem_mem hi)
  have hxl : (f x).length = k := by rw [hx, List.length_append, List.length_drop, hold]; omega
  have hl := fm_len hf
  have hik : i * k + k ≤ l.length * k := by
    have : (i + 1) * k ≤ l.length * k := Nat.mul_le_mul_right _ hi
    rw [Nat.succ_mul] at this
    exact this
  rw [← fm_set hf hxl hi]
  apply List.ext_getElem?
  intro j
  rw [sets_get, sets_get, hxl, hl]
  by_cases h1 : i * k ≤ j ∧ j < i * k + vs.length ∧ j < l.length * k
  · rw [if_pos h1, if_pos (by omega), hx, List.getElem?_append_left (by omega)]
  · rw [if_neg h1]
    by_cases h2 : i * k ≤ j ∧ j < i * k + k ∧ j < l.length * k
    · rw [if_pos h2, hx, List.getElem?_append_right (by omega), List.getElem?_drop]
      obtain ⟨q, hq⟩ : ∃ q, j = i * k + q := ⟨j - i * k, by omega⟩
      subst hq
      rw [fm_at (d := d) hf hi (by omega)]
      congr 1
      omega
    · rw [if_neg h2]
theorem PD17.torn' {w : World} {g gl cl : Nat} {vw : Value} {d : Dk.Ds} (h : PD17 w g gl cl vw d) (n : Nat) (k : Int) (s : List Int) (hn : n < d.lies.length) (hs : Dk.Sec s) : PD17 (w.setCells gl (n * 64) ((uv s).take (Dk.kp k))) g gl cl vw { d with lies := d.lies.set n (Dk.torn k s (d.lies.getD n [])) } := by
  have hm : Mod (fun k => k = gl) w (w.setCells gl (n * 64) ((uv s).take (Dk.kp k))) := (Mod.refl _ w).cells _ _ (.inl rfl)
  have hold := h.wf.lies _ (Dk.lie_at hn)
  have htl : ((uv s).take (Dk.kp k)).length = Dk.kp k := by rw [List.length_take, uv_len, hs.1]; have := Dk.kp_le k; omega
  have hx : uv (Dk.torn k s (d.lies.getD n [])) = (uv s).take (Dk.kp k) ++ (uv (d.lies.getD n [])).drop ((uv s).take (Dk.kp k)).length := by
    rw [htl]
    unfold Dk.torn uv
    rw [List.map_append, List.map_take, List.map_drop]
  refine ⟨?_, ?_, hm.owns h.waits fun k hk q => h.ne3 (by rw [hk, q]), ?_⟩
  · show _ = some (Obj.cells #[.slice (some ⟨gl, 0, none⟩) (d.lies.set _ _).length cl, vw, _, _, _] _ _)
    rw [List.length_set]
    exact (hm.block g (Array.getElem?_eq_some_iff.1 h.disk).1 (fun q => h.ne1 q.symm)).trans h.disk
  · show World.ownsRow _ 0 _ 64 (.slice (some ⟨gl, 0, none⟩) (d.lies.set _ _).length cl) (d.lies.set _ _).length (lv (d.lies.set _ _))
    rw [List.length_set]
    have := owns_sets ((uv s).take (Dk.kp k)) (n * 64) h.lies
    rw [show lv d.lies = d.lies.flatMap uv from rfl, fm_part (d := []) (lies_len h.wf) hn (by rw [htl]; exact Dk.kp_le k) hx] at this
    exact this
  · refine ⟨fun y hy => ?_, fun x hx => ?_, h.wf.left, by show 1 ≤ (d.lies.set _ _).length; rw [List.length_set]; exact h.wf.some⟩
    · rcases Dk.set_mem hy with q | q
      · exact h.wf.lies y q
      · rw [q]; exact Dk.torn_sec hs hold
    · show x.1 < (d.lies.set _ _).length ∧ _
      rw [List.length_set]
      exact h.wf.waits x hx
end Go.Proofs.Ythhfgcpflclflaa
