/- The document's disk: Write. -/
import Derived.Test.YthhfgcpflclflaaRs17
import Derived.Test.YthhfgcpflclflaaCells
import Derived.Great.BuildSlice
namespace Go.Proofs.Ythhfgcpflclflaa
open Go.RowKit
set_option linter.unusedVariables false
set_option maxHeartbeats 1000000
set_option maxRecDepth 100000
theorem writeInfo : (Try.prog.info? 71).map (fun i => (i.zero, i.size, i.bytes)) = some (some (.agg #[.int .i64 0, .string ⟨#[]⟩]), 2, 24) := by kernel_rfl
theorem build_write (x : Int) (s : ByteArray) (w : World) : (Instr.build 71 #[(0, .int .i64 x), (1, .string s)]).run Try.prog w = .ok (.agg #[.int .i64 x, .string s]) w := run_build w 71 _ _ (by kernel_rfl)
theorem build_writes (x : Int) (s : ByteArray) (w : World) : (Instr.buildSlice 62 1 #[(0, .agg #[.int .i64 x, .string s])]).run Try.prog w = .ok (.slice (some ⟨w.heap.size, 0, none⟩) 1 1) (w.alloc (.cells #[.int .i64 x, .string s] 71)) := by
  have hq := writeInfo
  cases hi : Try.prog.info? 71 with
  | none => rw [hi] at hq; cases hq
  | some ie =>
    rw [hi] at hq
    simp only [Option.map_some, Option.some.injEq, Prod.mk.injEq] at hq
    refine run_buildSlice w 62 71 1 _ _ ie _ Try.underlying62 hi hq.1 (by rw [hq.2.1]; decide) (by rw [hq.2.1]; decide) ?_
    rw [hq.2.1]
    kernel_rfl
theorem RD17.waits' {w : World} {g gl cl : Nat} {vw : Value} {d : Dk.Ds} (h : RD17 w g gl cl vw d) {v2 : Value} {ws : List (Nat × List Int)} (ho : w.ownsRow 0 71 2 v2 ws.length (wv ws)) : RD17 (w.setCell ⟨g, 1, none⟩ v2) g gl cl v2 { d with waits := ws } := by
  refine ⟨by have := blk_put h.disk 1 v2; simpa using this, (Mod.one w g 1 _).owns h.lies fun k hk => by cases hk; exact h.ne1, (Mod.one w g 1 _).owns ho fun k hk q => ?_⟩
  obtain ⟨cur, hc⟩ := owns_tag2 ho hk
  rw [q, h.disk] at hc
  simp at hc
theorem wv_one (ws : List (Nat × List Int)) : ∀ u ∈ wv ws, u.oneCell' = true := by
  intro u hu
  unfold wv at hu
  obtain ⟨x, _, hx⟩ := List.mem_flatMap.1 hu
  simp only [List.mem_cons, List.not_mem_nil, or_false] at hx
  rcases hx with rfl | rfl <;> rfl
theorem two_new17 (w : World) (a b : Value) (t : TypeId) : CE (w.alloc (.cells #[a, b] t)) 2 (some ⟨w.heap.size, 0, none⟩) 1 1 [a, b] :=
  ⟨rfl, Nat.le_refl _, by unfold maxLen; omega, fun ad e j u hj => by
    cases e
    have hadd : (⟨w.heap.size, 0, none⟩ : Addr).add j = ⟨w.heap.size, j, none⟩ := by unfold Addr.add; split <;> simp_all
    rw [hadd, World.cell?_alloc_mark]
    rw [← hj]
    simp, fun e => by cases e⟩
theorem rwrite_any (w : World) (g gl cl : Nat) (vw : Value) (d : Dk.Ds) (n : Int) (b : List Int) (h : RD17 w g gl cl vw d) (hs : d.steps ≤ 4611686018427387904) (hlf : d.left ≤ 9223372036854775807 ∧ -1 ≤ d.left) (hwb : (d.waits.length + 1) * 24 ≤ 140737488355328) :
    Calls Try.prog 26 #[.pointer (some ⟨g, 0, none⟩), .int .i64 n, .string (str b)] w fun e w' => e = .returned (.int .i64 (Dk.WR d n b).2) ∧ ∃ vw', RD17 w' g gl cl vw' (Dk.WR d n b).1 ∧ Mod (fun k => k = g) w w' ∧ ∀ k, vw'.ownBlock = some k → vw.ownBlock = some k ∨ w.heap.size ≤ k := by
  have HI := hide (fun r hr => ris_any w g gl cl vw d n h r hr)
  have hsz := str_size b
  obtain ⟨sb, hsb⟩ : ∃ sb, str b = sb := ⟨_, rfl⟩
  have HSB := hide hsb
  rw [hsb] at hsz ⊢
  by_cases hn : Dk.has d n
  · have HI1 := hide (HI.out true ⟨fun _ => hn, fun _ => rfl⟩)
    by_cases hl : b.length = 64
    · have hzb : ((sb.size : Int) != 64) = false := by rw [hsz, hl]; rfl
      by_cases h0 : d.left = 0
      · have e : Dk.WR d n b = (d, 170) := by unfold Dk.WR; rw [if_neg (by simpa using hn), if_neg (by simpa using hl), if_pos h0]
        obtain ⟨_, _, _, c3⟩ := h.cells
        rw [h0] at c3
        rw [e]
        have H := hide h
        clear h HI hn hl h0 e hsz hsb hs hlf
        go_enter Try.func26, Try.ntmps26
        go_wp2_with fail
        refine HI1.out.mono ?_
        rintro e w1 ⟨rfl, rfl⟩
        go_wp2
        go_ret
        exact ⟨rfl, _, H.out, Mod.refl _ _, fun k hk => .inl hk⟩
      · have e : Dk.WR d n b = (Dk.tick { d with waits := d.waits ++ [(n.toNat, b)] }, 0) := by unfold Dk.WR; rw [if_neg (by simpa using hn), if_neg (by simpa using hl), if_neg h0]
        obtain ⟨_, c1, _, c3⟩ := h.cells
        have f1 := h.fz 1
        have hlb : (d.left == 0) = false := beq_eq_false_iff_ne.2 h0
        obtain ⟨aw, cw, hvw, hce⟩ := ce_of_owns h.waits
        obtain ⟨k, hk⟩ : ∃ k : Nat, n = (k : Int) := ⟨n.toNat, by unfold Dk.has at hn; omega⟩
        subst hk
        rw [e, Int.toNat_natCast]
        have H := hide h
        have HE := hide hce
        obtain ⟨ie, hie, hz0, hz1, hz2⟩ := info_parts writeInfo
        have HII : Hid (Try.prog.info? 71 = some ie) := hie
        have HZ0 := hide hz0
        have HZ1 := hide hz1
        have HZ2 := hide hz2
        have hbw := build_write
        have hbs := build_writes
        have HW := hide hwb
        have HS := hide hs
        have HLF := hide hlf
        have OE := hide (owns_lit0 w 71 2 w.heap.size rfl)
        have KA := hide (show KO w (w.alloc (.cells #[] 71)) from KO.alloc (KO.refl _) _)
        subst hvw
        obtain ⟨m, hm⟩ : ∃ m, d.waits.length = m := ⟨_, rfl⟩
        rw [hm] at c1 HE hwb
        have HM := hide hm
        obtain ⟨lf, hlf'⟩ : ∃ lf, d.left = lf := ⟨_, rfl⟩
        rw [hlf'] at c3 hlb
        have c1a : (w.alloc (.cells #[] 71)).cell? ⟨g, 1, none⟩ = some (.slice aw m cw) := (KA.out.cell (by exact (Array.getElem?_eq_some_iff.1 h.disk).1)).trans c1
        have HGS : Hid (g < w.heap.size) := hide (Array.getElem?_eq_some_iff.1 h.disk).1
        clear h HI hn hl h0 e hsb hs hlf hie hz0 hz1 hz2 hce hm hlf' hsz
        go_enter Try.func26, Try.ntmps26
        go_wp2_with fail
        refine HI1.out.mono ?_
        rintro e w1 ⟨rfl, rfl⟩
        go_wp2_with (first
          | (at_builtin; refine wpList_append_cells _ rfl (.tmp 20) (.tmp 24) 62 rfl w.heap.size 71 ie _ 2 24 Try.underlying62 HII.out HZ0.out HZ1.out HZ2.out rfl (by decide) _ 0 [] rfl OE.out aw m cw _ rfl (HE.out.below KA.out) (wv_one _) (by omega) (by omega) (by simp) ?_; intro v2 w2 ho2 hg2 hb2; rw [Nat.zero_add, List.nil_append] at ho2; obtain ⟨a2, c2, e2, hle2⟩ := owns_form ho2; subst e2; have hbz : w.heap.size ≤ w2.heap.size := Nat.le_trans (by simp) hb2.size)
          | (at_builtin; refine wpList_append_cells _ rfl (.tmp 25) (.tmp 29) 62 rfl w.heap.size 71 ie _ 2 24 Try.underlying62 HII.out HZ0.out HZ1.out HZ2.out rfl (by decide) _ m (wv d.waits) rfl (ho2.alloc _) _ 1 1 [.int .i64 (k : Int), .string sb] rfl (two_new17 w2 _ _ _) (by simp [Value.oneCell']) (by have := HW.out; rw [HM.out] at this; omega) (by omega) (by simp; omega) ?_; intro v3 w3 ho3 hg3 hb3; have hk3 : KO w w3 := Below.trans (KO.alloc (Below.trans KA.out hb2) _) hb3; obtain ⟨a3, c3', e3, hle3⟩ := owns_form ho3; subst e3; have f3 := (H.out.ko hk3).fz 1; have c1b := (H.out.ko hk3).cells.2.1))
        have hw : wv d.waits ++ [.int .i64 (k : Int), .string sb] = wv (d.waits ++ [(k, b)]) := by rw [wv_app, ← HSB.out]; rfl
        rw [hw] at ho3
        have hl3 : m + 1 = (d.waits ++ [(k, b)]).length := by rw [List.length_append, HM.out]; rfl
        have ho4 := owns_mono ho3 (Nat.zero_le _)
        have h4 := (H.out.ko hk3).waits' (v2 := .slice a3 (m + 1) c3') (ws := d.waits ++ [(k, b)]) (by rw [← hl3]; exact ho4)
        have HST := hide (rstep_any _ g gl cl _ _ h4 HS.out HLF.out)
        have HM4 := hide (show Mod (fun k => k = g) w (w3.setCell ⟨g, 1, none⟩ (.slice a3 (m + 1) c3')) from (Mod.of_ko hk3).trans (Mod.one w3 g 1 _) fun i q => .inl q)
        have HB4 : Hid (∀ q, (Value.slice a3 (m + 1) c3').ownBlock = some q → w.heap.size ≤ q) := hide (fun q hq => (ho3.lt q hq).1)
        clear ho2 hg2 hb2 hle2 hbz ho3 hg3 hb3 hk3 hle3 f3 c1b hw ho4 h4
        go_wp2_with fail
        refine HST.out.mono ?_
        rintro e w5 ⟨⟨v, rfl⟩, hr5, hm5⟩
        have HR5 := hide hr5
        have HM5 := hide (HM4.out.trans hm5 fun i q => .inl q)
        clear hr5 hm5 HST
        go_wp2
        go_ret
        exact ⟨rfl, _, HR5.out, HM5.out, fun q hq => .inr (HB4.out q hq)⟩
    · have e : Dk.WR d n b = (d, 2) := by unfold Dk.WR; rw [if_neg (by simpa using hn), if_pos (by simpa using hl)]
      have hzb : ((sb.size : Int) != 64) = true := bne_iff_ne.2 (by omega)
      rw [e]
      have H := hide h
      clear h HI hn hl e hsz hsb hs hlf
      go_enter Try.func26, Try.ntmps26
      go_wp2_with fail
      refine HI1.out.mono ?_
      rintro e w1 ⟨rfl, rfl⟩
      go_wp2
      go_ret
      exact ⟨rfl, _, H.out, Mod.refl _ _, fun k hk => .inl hk⟩
  · have HI1 := hide (HI.out false ⟨fun q => (by cases q), fun q => absurd q hn⟩)
    have e : Dk.WR d n b = (d, 4) := by unfold Dk.WR; rw [if_pos hn]
    rw [e]
    have H := hide h
    clear h HI hn e hsz hsb hs hlf
    go_enter Try.func26, Try.ntmps26
    go_wp2_with fail
    refine HI1.out.mono ?_
    rintro e w1 ⟨rfl, rfl⟩
    go_wp2
    go_ret
    exact ⟨rfl, _, H.out, Mod.refl _ _, fun k hk => .inl hk⟩
end Go.Proofs.Ythhfgcpflclflaa
