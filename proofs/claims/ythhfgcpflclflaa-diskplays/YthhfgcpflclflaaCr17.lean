/- The program's disk: Crash. -/
import Derived.Test.YthhfgcpflclflaaCl17
import Derived.Test.YthhfgcpflclflaaRc17
namespace Go.Proofs.Ythhfgcpflclflaa
open Go.RowKit Go.Shelf
set_option linter.unusedVariables false
set_option maxHeartbeats 1000000
set_option maxRecDepth 100000
attribute [local go_sem] Oper.semAt_some
theorem u8_size17 : (Try.prog.info? 5).map (·.size) = some 1 := by kernel_rfl
/-- A disk that a crash left: what lies on it. -/
def cd (ls : List (List Int)) : Dk.Ds := { lies := ls, waits := [], steps := 0, left := -1 }
/-- What a crash keeps while it goes through what waits. -/
structure CM (w : World) (g gd gl cl : Nat) (d : Dk.Ds) (kept : List Int) (pre : List (Nat × List Int)) (X : World) : Prop where
  disk : PD17 X gd gl cl (.slice none 0 0) (cd (Dk.cw kept d.waits d.lies pre.length))
  row : ∃ ak nk ck, Boxed X w.heap.size 34 (.slice ak nk ck) ∧ Row .i64 X ak nk ck (kept.drop pre.length) ∧ (0 < nk → ∀ b o, ak = some ⟨b, o, none⟩ → b < w.heap.size)
  le : pre.length ≤ kept.length
  b6 : Boxed X (gd + 1) 23 (.pointer (some ⟨gd, 0, none⟩))
  b2 : Boxed X (gd + 2) 23 (.pointer (some ⟨g, 0, none⟩))
  old : KO w X
theorem row_ch {k : IntKind} {B : Nat} {X Y : World} {ao : Option Addr} {n cap : Nat} {zs : List Int} (h : Row k X ao n cap zs) (hc : Ch true B X Y) : Row k Y ao n cap zs :=
  ⟨h.len, h.le, h.max, fun h0 => by
    obtain ⟨b, off, e1, e2, e3⟩ := h.cells h0
    exact ⟨b, off, e1, Nat.lt_of_lt_of_le e2 hc.below.size, fun i hi => hc.cell (e3 i hi)⟩, h.nil⟩
theorem CM.ch {w : World} {g gd gl cl : Nat} {d : Dk.Ds} {kept : List Int} {pre : List (Nat × List Int)} {X Y : World} {B : Nat} (h : CM w g gd gl cl d kept pre X) (hc : Ch true B X Y) (hB : w.heap.size ≤ B) : CM w g gd gl cl d kept pre Y := by
  obtain ⟨ak, nk, ck, hb, hr, hlt⟩ := h.row
  exact ⟨h.disk.ch hc, ⟨ak, nk, ck, hc.cells rfl _ _ hb rfl, row_ch hr hc, hlt⟩, h.le, hc.cells rfl _ _ h.b6 rfl, hc.cells rfl _ _ h.b2 rfl, h.old.trans (hc.below.mono hB)⟩
theorem pcrash_any (w : World) (g gl cl : Nat) (vw : Value) (d : Dk.Ds) (ak : Option Addr) (nk ck : Nat) (kept : List Int) (h : PD17 w g gl cl vw d) (hk : Row .i64 w ak nk ck kept) (hlb : d.lies.length * 64 ≤ 140737488355328) :
    Calls Try.prog 16 #[.pointer (some ⟨g, 0, none⟩), .slice ak nk ck] w fun e w' => ∃ g' gl' cl', e = .returned (.tuple #[.pointer (some ⟨g', 0, none⟩), .int .i64 0]) ∧ PD17 w' g' gl' cl' (.slice none 0 0) (Dk.CR d kept) ∧ KO w w' ∧ w.heap.size ≤ g' ∧ w.heap.size ≤ gl' := by
  have KA := hide (show KO w (w.alloc (.cells #[.slice ak nk ck] 34)) from KO.alloc (KO.refl w) _)
  have hV := h.ko KA.out
  have hVK := hk.below KA.out
  obtain ⟨V, hVV⟩ : ∃ V, w.alloc (.cells #[.slice ak nk ck] 34) = V := ⟨_, rfl⟩
  have HVN := hide hVV
  have HBV : Hid (Boxed V w.heap.size 34 (.slice ak nk ck)) := hide (by rw [← hVV]; exact Boxed.new w _ _)
  have HVS : Hid (V.heap.size = w.heap.size + 1) := hide (by rw [← hVV]; simp)
  rw [hVV] at hV hVK KA
  have HST := hide (pstands_any V g gl cl vw d hV)
  have c0 := hV.cells.1
  obtain ⟨ao, co, hvl, hce⟩ := ce_of_owns hV.lies
  simp only [Value.slice.injEq] at hvl
  obtain ⟨rfl, _, rfl⟩ := hvl
  have HCL := hide (pclone_any V gl d.lies.length cl d.lies hce h.wf.some hlb)
  obtain ⟨aw, cw, hvw, hle, hcw, hrow⟩ := h.waitL
  have H := hide h
  have HV := hide hV
  have HVK := hide hVK
  have HROW := hide hrow
  have HXL := hide (waits_len h.wf)
  have HLE := hide hle
  have HCW := hide hcw
  have HVW := hide hvw
  have HKL := hide hk.len
  have HKB : Hid (0 < nk → ∀ b o, ak = some ⟨b, o, none⟩ → b < w.heap.size) := hide (fun h0 b o e => by
    obtain ⟨b', o', e', hb, _⟩ := hk.cells h0
    rw [e] at e'
    cases e'
    exact hb)
  have hbd := build_pdisk17
  obtain ⟨Z, hZ, hz⟩ := zero_sector
  have HZ := hide hZ
  clear h hV hVK hVV hce hrow hle hcw hvw hk hlb hZ
  refine (callsIn_wide (n := 3)).1 ?_
  refine callsIn_of_wp_marks Try.func16 rfl trivial ?_
  simp only [Try.ntmps16, List.size_toArray, List.length_cons, List.length_nil, Nat.reduceAdd, Nat.reduceSub, Array.replicate_succ, Array.replicate_zero, List.push_toArray, List.append_toArray, List.nil_append, List.cons_append]
  gi_wp2_with fail
  rw [HVN.out]
  refine ⟨trivial, ?_⟩
  refine (callsIn_wide.2 HST.out).mono ?_
  rintro e w1 ⟨rfl, rfl⟩
  gi_wp2_with fail
  refine ⟨trivial, ?_⟩
  refine (callsIn_wide.2 HCL.out).mono ?_
  rintro e w1 ⟨gl2, cl2, rfl, ho1, hk1⟩
  have HO1 := hide ho1
  have HK1 := hide hk1
  clear ho1 hk1 HCL HST c0
  gi_wp2_with fail
  refine ⟨trivial, ?_⟩
  obtain ⟨U, hU⟩ : ∃ U, (w1.alloc (.cells #[.slice (some ⟨gl2, 0, none⟩) d.lies.length cl2, .slice none 0 0, .int .i64 0, .bool false, .int .i64 0] 42)).alloc (.cells #[.pointer (some ⟨w1.heap.size, 0, none⟩)] 23) = U := ⟨_, rfl⟩
  have hUK : KO w1 U := by rw [← hU]; exact KO.alloc (KO.alloc (KO.refl w1) _) _
  have hUS : U.heap.size = w1.heap.size + 2 := by rw [← hU]; simp
  have hUD : PD17 U w1.heap.size gl2 cl2 (.slice none 0 0) (cd d.lies) := by
    rw [← hU]
    have hp : PD17 (w1.alloc (.cells #[.slice (some ⟨gl2, 0, none⟩) d.lies.length cl2, .slice none 0 0, .int .i64 0, .bool false, .int .i64 0] 42)) w1.heap.size gl2 cl2 (.slice none 0 0) (cd d.lies) :=
      ⟨World.alloc_heap_new w1 _, owns_mono (HO1.out.alloc _) (Nat.zero_le _), World.ownsRow_nil _ _ _ _, ⟨H.out.wf.lies, fun x hx => (by cases hx), (by show (-1 : Int) ≤ -1; omega), H.out.wf.some⟩⟩
    exact hp.ko (KO.alloc (KO.refl _) _)
  have hUB : Boxed U (w1.heap.size + 1) 23 (.pointer (some ⟨w1.heap.size, 0, none⟩)) := by
    rw [← hU]
    have := Boxed.new (w1.alloc (.cells #[.slice (some ⟨gl2, 0, none⟩) d.lies.length cl2, .slice none 0 0, .int .i64 0, .bool false, .int .i64 0] 42)) 23 (.pointer (some ⟨w1.heap.size, 0, none⟩))
    rw [World.size_alloc] at this
    exact this
  rw [hU]
  refine (callsIn_wide.2 (waiting_any g U)).mono ?_
  rintro e w2 ⟨rfl, hw2⟩
  have hVW1 : V.heap.size ≤ w1.heap.size := HK1.out.size
  have h00 : CM w g w1.heap.size gl2 cl2 d kept [] w2 := by
    subst hw2
    have hko : KO w1 (U.alloc (.cells #[.pointer (some ⟨g, 0, none⟩)] 23)) := KO.alloc hUK _
    refine ⟨hUD.ko (KO.alloc (KO.refl _) _), ⟨ak, nk, ck, ?_, ?_, HKB.out⟩, Nat.zero_le _, hUB.alloc _, ?_, ?_⟩
    · exact ((HK1.out.on hko).block _ HBV.out.lt).trans HBV.out
    · exact (HVK.out.below HK1.out).below hko
    · have := Boxed.new U 23 (.pointer (some ⟨g, 0, none⟩))
      rw [hUS] at this
      exact this
    · exact KO.on (KO.on KA.out HK1.out) hko
  have hws : w2.heap.size = w1.heap.size + 3 := by rw [hw2, World.size_alloc]; omega
  have HWS := hide hws
  have H0 := hide h00
  have HWV : Hid (w.heap.size + 1 ≤ w1.heap.size) := hide (by have := HVS.out; omega)
  have HGL2 : Hid (w.heap.size ≤ gl2) := hide (by have := (HO1.out.lt gl2 rfl).1; have := HVS.out; omega)
  have HGL3 : Hid (gl2 < w1.heap.size) := hide (HO1.out.lt gl2 rfl).2
  rw [hUS]
  clear hw2 h00 hws hU hUK hUS hUD hUB hVW1
  generalize w1.heap.size = gd at *
  gi_wp2_with fail
  refine wpIn_rangeC (gf := 44) (lb := #[.pointer (some ⟨gd + 2, 0, none⟩)]) rfl (enters_of Try.func44 (by kernel_rfl) rfl) (waiting1_any true Far (fun _ _ _ h => h.size) (gd + 2) g aw cw d.waits HXL.out HLE.out HCW.out) (fun _ => rfl)
    (fun pre X => CM w g gd gl2 cl2 d kept pre X) (fun c pre X => c = .exit 0 ∧ ∃ k, kept.length ≤ k ∧ k ≤ d.waits.length ∧ PD17 X gd gl2 cl2 (.slice none 0 0) (cd (Dk.cw kept d.waits d.lies k)) ∧ Boxed X (gd + 1) 23 (.pointer (some ⟨gd, 0, none⟩)) ∧ KO w X)
    (fun pre X hX => ⟨hX.b2.cell, by rw [← HVW.out]; exact (H.out.ko hX.old).cells.2.1, HROW.out X _ (H.out.ko hX.old)⟩)
    (fun pre X Y hX hc => hX.ch hc (by have := HWS.out; have := HWV.out; omega))
    (fun c pre X Y hX hc => by
      obtain ⟨hc1, k, hk1, hk2, hp, hb, hko⟩ := hX
      exact ⟨hc1, k, hk1, hk2, hp.ch hc, hc.cells rfl _ _ hb rfl, hko.trans (hc.below.mono (by have := HWS.out; have := HWV.out; omega))⟩) H0.out
    ?ac
    (fun x X => X.alloc (.cells (u6 x.2).toArray 75)) (fun x X => (Below.refl _ _).alloc (Nat.le_refl _) _) ?assign ?body ?done ?stop
  case assign =>
    intro m l x W K hK
    unfold encw
    gi_wp2_with (refine wpListIn_store_new rfl rfl 75 _ _ rfl rfl Z (u6 x.2).toArray rfl (u6_info x.2) (u6_zero HZ.out x.2) (all_oneCell_toArray (u6_one x.2)) ?_)
    exact hK
  case body =>
    rintro m y pre x X0 X hM hpre hXs hnew hsz
    have hpa := prefix_at hpre
    have hpl : pre.length < d.waits.length := (List.getElem?_eq_some_iff.1 hpa.1).1
    have hx : d.waits.getD pre.length (0, []) = x := by
      have := hpa.1
      simp [List.getD, this]
    have hxw := H.out.wf.waits x (hx ▸ Dk.wait_at hpl)
    have hxl : (uv x.2).length = 64 := by rw [uv_len]; exact hxw.2.1
    have hblk : X.heap[X0.heap.size]? = some (.cells (uv x.2).toArray 75 (0, 0)) := by
      rw [hnew _ (Nat.le_refl _), u6_eq hxl]
      exact World.alloc_heap_new X0 _
    obtain ⟨ak2, nk2, ck2, hbk, hrk, hkw⟩ := hM.row
    have ck := hbk.cell
    have fk := hbk.frozen
    have hlk := hrk.len
    rw [List.length_drop] at hlk
    have hkm := hrk.max
    have hkle := hrk.le
    unfold maxLen at hkm
    have hws := HWS.out
    have hwv := HWV.out
    have hX0 : w2.heap.size ≤ X0.heap.size := hXs
    rw [u6_eq hxl]
    by_cases hend : nk2 = 0
    · have hi0 : ((nk2 : Int) == 0) = true := by rw [hend]; rfl
      have HM := hide hM
      have HFK : Hid (kept.length ≤ pre.length) := hide (by omega)
      have HPL := hide hpl
      clear hpa hx hxw hxl hblk hbk hrk hlk hkm hM hpre hnew hsz hpl
      generalize hQ : rPostC _ _ _ _ X = Q
      have HQ := hide hQ
      clear hQ
      gi_wp2_with fail
      rw [← HQ.out]
      exact ⟨Far.refl _ _, rfl, pre.length, HFK.out, Nat.le_of_lt HPL.out, HM.out.disk, HM.out.b6, HM.out.old⟩
    · have hi0 : ((nk2 : Int) == 0) = false := beq_eq_false_iff_ne.2 (by omega)
      obtain ⟨kb, ko, rfl, hkb, hkc⟩ := hrk.cells (by omega)
      have hk0 := hkc 0 (by rw [List.length_drop]; omega)
      rw [Nat.add_zero] at hk0
      obtain ⟨v, hv⟩ : ∃ v, (kept.drop pre.length).getD 0 0 = v := ⟨_, rfl⟩
      rw [hv] at hk0
      have hvk : kept.getD pre.length 0 = v := by rw [← hv]; simp [List.getD]
      have hfl : (Dk.cw kept d.waits d.lies pre.length).length = d.lies.length := Dk.cw_len _
      have c0 := hM.disk.cells.1
      have e1 : (cd (Dk.cw kept d.waits d.lies pre.length)).lies.length = d.lies.length := hfl
      rw [e1] at c0
      have c6 := hM.b6.cell
      have hkp := Dk.kp_le v
      obtain ⟨q, hq⟩ : ∃ q, Dk.kp v = q := ⟨_, rfl⟩
      have hth := hM.disk.may (n := x.1) (by rw [e1]; exact hxw.1)
      have hS0 : Mod (fun k => k = gl2) X X.drew := Mod.of_ko (below_drewN X 1)
      have hgs := hM.disk.lt gd (.inl rfl)
      have hgl3 := HGL3.out
      have hkbw := hkw (by omega) kb ko rfl
      have hgl2 := HGL2.out
      have hne : ¬ w.heap.size = gl2 := fun r => by
        obtain ⟨cur, hc⟩ := owns_tag hM.disk.lies
        have := hbk
        unfold Boxed at this
        rw [show w.heap.size = gl2 from r, hc] at this
        simp at this
      have hall : ∀ w', Mod (fun k => k = gl2) X w' → w'.cell? ⟨gd + 1, 0, none⟩ = some (.pointer (some ⟨gd, 0, none⟩)) ∧ w'.cell? ⟨gd, 0, none⟩ = some (.slice (some ⟨gl2, 0, none⟩) d.lies.length cl2) ∧ w'.cell? ⟨w.heap.size, 0, none⟩ = some (.slice (some ⟨kb, ko, none⟩) nk2 ck2) ∧ w'.cell? ⟨kb, ko, none⟩ = some (.int .i64 v) := fun w' hm =>
        ⟨hm.cell (by show ¬ gd + 1 = gl2; omega) c6, hm.cell (by show ¬ gd = gl2; omega) c0, hm.cell hne ck, hm.cell (by show ¬ kb = gl2; omega) hk0⟩
      have htl : ((uv x.2).take q).length = q := by rw [List.length_take]; omega
      have hS1 : Mod (fun k => k = gl2) X (X.drew.setCells gl2 (x.1 * 64) ((uv x.2).take q)) := hS0.cells _ _ (.inl rfl)
      have hA0 := hall _ hS0
      have hA1 := hall _ hS1
      have hth2 : X.drew.there gl2 (x.1 * 64) 64 := by rw [World.there_drew]; exact hth
      have hcp := run_copy_cells (P := Try.prog) X.drew 33 33 3 5 gl2 (x.1 * 64) 64 64 ⟨X0.heap.size, 0, none⟩ q 64 ((uv x.2).take q) Try.underlying33 u8_size17 (by rw [htl]; exact (Nat.min_eq_left (by omega)).symm) (fun j u hj => by
          rw [Addr.add_mid]
          refine blk_range (w := X.drew) hblk 0 (uv x.2) (fun j v hj => by rw [Nat.zero_add]; exact hj) j u ?_
          rw [List.getElem?_take] at hj
          split at hj
          · exact hj
          · cases hj) (fun j hj => (hth2 j (by omega)).1) (fun j hj => (hth2 j (by omega)).2) (fun u hu => uv_one x.2 u (List.mem_of_mem_take hu))
      rw [htl] at hcp
      have hp3 := (hM.disk.drewN 1).torn' x.1 v x.2 (by rw [e1]; exact hxw.1) hxw.2
      rw [hq] at hp3
      obtain ⟨W3, hW3⟩ : ∃ W3, X.drew.setCells gl2 (x.1 * 64) ((uv x.2).take q) = W3 := ⟨_, rfl⟩
      rw [show (X.drewN 1).setCells gl2 (x.1 * 64) ((uv x.2).take q) = W3 from hW3] at hp3
      rw [hW3] at hcp hA1 hS1
      have hFar : Far w2.heap.size X W3 := by rw [← hW3]; exact (Far.of_below (below_drewN X 1)).trans (far_cells _ _ _)
      have hbk3 : Boxed W3 w.heap.size 34 (.slice (some ⟨kb, ko, none⟩) nk2 ck2) := (hS1.block _ hbk.lt hne).trans hbk
      have hb63 : Boxed W3 (gd + 1) 23 (.pointer (some ⟨gd, 0, none⟩)) := (hS1.block _ hM.b6.lt (by omega)).trans hM.b6
      have hb23 : Boxed W3 (gd + 2) 23 (.pointer (some ⟨g, 0, none⟩)) := (hS1.block _ hM.b2.lt (by omega)).trans hM.b2
      have hold3 : KO w W3 := by rw [← hW3]; exact KO.cells (KO.drew hM.old) _ hgl2
      have hrow3 := hS1.row hrk (fun b o e => by
        simp only [Option.some.injEq, Addr.mk.injEq] at e
        show ¬ b = gl2
        omega)
      obtain ⟨ii, hii, _, _, _⟩ := info_parts infoInt
      have hslc : ∀ w', (Instr.slice 34 (.slice (some ⟨kb, ko, none⟩) nk2 ck2) (some (.int .i64 1)) none none).run Try.prog w' = .ok (.slice (tl (some ⟨kb, ko, none⟩) ck2 1) (nk2 - 1) (ck2 - 1)) w' := fun w' => run_from (P := Try.prog) Try.underlying34 hii cellsInt (some ⟨kb, ko, none⟩) nk2 ck2 1 (by omega) w'
      have hset := hbk3.set (.slice (tl (some ⟨kb, ko, none⟩) ck2 1) (nk2 - 1) (ck2 - 1))
      have hmS := Mod.one W3 w.heap.size 0 (.slice (tl (some ⟨kb, ko, none⟩) ck2 1) (nk2 - 1) (ck2 - 1))
      have HNX : Hid (CM w g gd gl2 cl2 d kept (pre ++ [x]) (W3.setCell ⟨w.heap.size, 0, none⟩ (.slice (tl (some ⟨kb, ko, none⟩) ck2 1) (nk2 - 1) (ck2 - 1)))) := hide (by
        refine ⟨?_, ⟨tl (some ⟨kb, ko, none⟩) ck2 1, nk2 - 1, ck2 - 1, hset, ?_, fun h0 b o e => ?_⟩, ?_, ?_, ?_, ?_⟩
        · rw [List.length_append, List.length_singleton]
          have := hp3.keep (F := fun k => k = w.heap.size) hmS (fun k hk r => by
            rcases hk with rfl | rfl | hk
            · omega
            · exact hne r.symm
            · cases hk)
          refine cast ?_ this
          congr 1
          show cd ((Dk.cw kept d.waits d.lies pre.length).set x.1 (Dk.torn v x.2 ((Dk.cw kept d.waits d.lies pre.length).getD x.1 []))) = cd (Dk.cw kept d.waits d.lies (pre.length + 1))
          rw [Dk.cw, hx, hvk]
        · have := (hmS.row hrow3 (fun b o e => by
            simp only [Option.some.injEq, Addr.mk.injEq] at e
            show ¬ b = w.heap.size
            omega)).drop (j := 1) (by omega)
          rw [List.length_append, List.length_singleton, ← List.drop_drop]
          exact this
        · unfold tl at e
          rw [if_neg (by omega)] at e
          simp only [Option.map_some, Option.some.injEq] at e
          rw [Addr.add_mid] at e
          simp only [Addr.mk.injEq] at e
          omega
        · rw [List.length_append, List.length_singleton]; omega
        · exact hb63.other (by omega) _
        · exact hb23.other (by omega) _
        · exact hold3.setCell (p := ⟨w.heap.size, 0, none⟩) (Nat.le_refl _) _)
      have HFar : Hid (Far w2.heap.size X (W3.setCell ⟨w.heap.size, 0, none⟩ (.slice (tl (some ⟨kb, ko, none⟩) ck2 1) (nk2 - 1) (ck2 - 1)))) := hide (hFar.trans (Far.of_others (KeepsOthers.setCell _ _ _)))
      have hc3 := hbk3.cell
      have hf3 := hbk3.frozen
      have hBG := beginning_any X.drew v
      rw [hq] at hBG
      have HBG := hide hBG
      have hq64 : (q : Int) ≤ 64 := by omega
      have hki : (x.1 : Int) < (d.lies.length : Int) := by have := hxw.1; omega
      have hnk : (0 : Int) < (nk2 : Int) := by omega
      clear hpa hpl hx hxw hxl hblk hbk hrk hlk hkm hM hpre hnew hsz hkc hv hvk hfl e1 hkp hq hth hS0 hgs hgl3 hkbw hgl2 hne hall htl hS1 hth2 hp3 hW3 hFar hbk3 hb63 hb23 hold3 hrow3 hset hmS hBG hkw hkb hws hwv hX0 hXs fk c0 c6 hk0 hkle
      have HA1 := hide hA1
      clear hA1
      generalize tl (some ⟨kb, ko, none⟩) ck2 1 = at3 at *
      generalize d.lies.length = nl at *
      generalize x.1 = kx at *
      generalize hQ : rPostC _ _ _ _ X = Q
      have HQ := hide hQ
      clear hQ
      gi_wp2_with fail
      refine wpIn_round_held (fun w' => w'.cell? ⟨gd + 1, 0, none⟩ = some (.pointer (some ⟨gd, 0, none⟩)) ∧ w'.cell? ⟨gd, 0, none⟩ = some (.slice (some ⟨gl2, 0, none⟩) nl cl2) ∧ w'.cell? ⟨w.heap.size, 0, none⟩ = some (.slice (some ⟨kb, ko, none⟩) nk2 ck2) ∧ w'.cell? ⟨kb, ko, none⟩ = some (.int .i64 v)) (by kernel_rfl) (calm_of (by simp)) 13 rfl hA0 (fun hHeld => ?_)
      refine wpAnyH_take (i := 0) (v := .pointer (some ⟨gd, 0, none⟩)) rfl (by kernel_rfl) (by kernel_rfl) (by kernel_rfl) (fun _ _ _ h => h) (Or.inl ⟨by rfl, ?_⟩) hHeld ?_
      · intro w' hSw
        obtain ⟨q0, q1, q2, q3⟩ := hSw
        go_simp
      simp only [Act.put, List.setIfInBounds_toArray, List.set_cons_zero, List.set_cons_succ, List.getElem_toArray, List.getElem_cons_zero]
      refine wpAnyH_take (i := 1) (v := .pointer (some ⟨gd, 0, none⟩)) rfl (by kernel_rfl) (by kernel_rfl) (by kernel_rfl) (fun _ _ _ h => h) (Or.inl ⟨by rfl, ?_⟩) hHeld ?_
      · intro w' hSw
        obtain ⟨q0, q1, q2, q3⟩ := hSw
        go_simp
      simp only [Act.put, List.setIfInBounds_toArray, List.set_cons_zero, List.set_cons_succ, List.getElem_toArray, List.getElem_cons_succ, List.getElem_cons_zero]
      refine wpAnyH_take (i := 2) (v := .pointer (some ⟨gd, 0, none⟩)) rfl (by kernel_rfl) (by kernel_rfl) (by kernel_rfl) (fun _ _ _ h => h) (Or.inl ⟨by rfl, ?_⟩) hHeld ?_
      · intro w' hSw
        obtain ⟨q0, q1, q2, q3⟩ := hSw
        go_simp
      simp only [Act.put, List.setIfInBounds_toArray, List.set_cons_zero, List.set_cons_succ, List.getElem_toArray, List.getElem_cons_succ, List.getElem_cons_zero]
      refine wpAnyH_take (i := 3) (v := .slice (some ⟨gl2, 0, none⟩) nl cl2) rfl (by kernel_rfl) (by kernel_rfl) (by kernel_rfl) (fun _ _ _ h => h) (Or.inl ⟨by rfl, ?_⟩) hHeld ?_
      · intro w' hSw
        obtain ⟨q0, q1, q2, q3⟩ := hSw
        go_simp
      simp only [Act.put, List.setIfInBounds_toArray, List.set_cons_zero, List.set_cons_succ, List.getElem_toArray, List.getElem_cons_succ, List.getElem_cons_zero]
      refine wpAnyH_take (i := 4) (v := .int .i64 (kx : Int)) rfl (by kernel_rfl) (by kernel_rfl) (by kernel_rfl) (fun _ _ _ h => h) (Or.inl ⟨by rfl, ?_⟩) hHeld ?_
      · intro w' hSw
        obtain ⟨q0, q1, q2, q3⟩ := hSw
        go_simp
      simp only [Act.put, List.setIfInBounds_toArray, List.set_cons_zero, List.set_cons_succ, List.getElem_toArray, List.getElem_cons_succ, List.getElem_cons_zero]
      refine wpAnyH_take (i := 5) (v := .pointer (some ⟨gl2, kx * 64, none⟩)) rfl (by kernel_rfl) (by kernel_rfl) (by kernel_rfl) (fun _ _ _ h => h) (Or.inl ⟨by rfl, ?_⟩) hHeld ?_
      · intro w' hSw
        obtain ⟨q0, q1, q2, q3⟩ := hSw
        go_simp
      simp only [Act.put, List.setIfInBounds_toArray, List.set_cons_zero, List.set_cons_succ, List.getElem_toArray, List.getElem_cons_succ, List.getElem_cons_zero]
      refine wpAnyH_take (i := 6) (v := .slice (some ⟨gl2, kx * 64, none⟩) 64 64) rfl (by kernel_rfl) (by kernel_rfl) (by kernel_rfl) (fun _ _ _ h => h) (Or.inl ⟨by rfl, ?_⟩) hHeld ?_
      · intro w' hSw
        obtain ⟨q0, q1, q2, q3⟩ := hSw
        go_simp
      simp only [Act.put, List.setIfInBounds_toArray, List.set_cons_zero, List.set_cons_succ, List.getElem_toArray, List.getElem_cons_succ, List.getElem_cons_zero]
      refine wpAnyH_take (i := 7) (v := .slice (some ⟨kb, ko, none⟩) nk2 ck2) rfl (by kernel_rfl) (by kernel_rfl) (by kernel_rfl) (fun _ _ _ h => h) (Or.inl ⟨by rfl, ?_⟩) hHeld ?_
      · intro w' hSw
        obtain ⟨q0, q1, q2, q3⟩ := hSw
        go_simp
      simp only [Act.put, List.setIfInBounds_toArray, List.set_cons_zero, List.set_cons_succ, List.getElem_toArray, List.getElem_cons_succ, List.getElem_cons_zero]
      refine wpAnyH_take (i := 8) (v := .pointer (some ⟨kb, ko, none⟩)) rfl (by kernel_rfl) (by kernel_rfl) (by kernel_rfl) (fun _ _ _ h => h) (Or.inl ⟨by rfl, ?_⟩) hHeld ?_
      · intro w' hSw
        obtain ⟨q0, q1, q2, q3⟩ := hSw
        go_simp
      simp only [Act.put, List.setIfInBounds_toArray, List.set_cons_zero, List.set_cons_succ, List.getElem_toArray, List.getElem_cons_succ, List.getElem_cons_zero]
      refine wpAnyH_take (i := 9) (v := .int .i64 v) rfl (by kernel_rfl) (by kernel_rfl) (by kernel_rfl) (fun _ _ _ h => h) (Or.inl ⟨by rfl, ?_⟩) hHeld ?_
      · intro w' hSw
        obtain ⟨q0, q1, q2, q3⟩ := hSw
        go_simp
      simp only [Act.put, List.setIfInBounds_toArray, List.set_cons_zero, List.set_cons_succ, List.getElem_toArray, List.getElem_cons_succ, List.getElem_cons_zero]
      refine wpAnyH_ready (rs := [10]) (by kernel_rfl) (by simp) ?_
      refine AllReadyH.cons rfl (fun K hK => ?_) AllReadyH.nil
      go_simp
      refine HBG.out.mono ?_
      rintro e w' ⟨rfl, rfl⟩
      dsimp only
      refine hK.out _ _ hHeld (fun hHeld => ?_)
      clear hK K
      refine wpAnyH_take (i := 11) (v := .slice (some ⟨X0.heap.size, 0, none⟩) q 64) rfl (by kernel_rfl) (by kernel_rfl) (by kernel_rfl) (fun _ _ _ h => h) (Or.inl ⟨by rfl, ?_⟩) hHeld ?_
      · intro w' hSw
        obtain ⟨q0, q1, q2, q3⟩ := hSw
        go_simp
      simp only [Act.put, List.setIfInBounds_toArray, List.set_cons_zero, List.set_cons_succ, List.getElem_toArray, List.getElem_cons_succ, List.getElem_cons_zero]
      refine wpAnyH_ready (rs := [12]) (by kernel_rfl) (by simp) ?_
      refine AllReadyH.cons rfl (fun K hK => ?_) AllReadyH.nil
      go_simp
      refine hK.out _ _ HA1.out (fun hHeld => ?_)
      clear hK K
      refine wpAnyH_done (by kernel_rfl) ?_ _
      dsimp only [Cm]
      gi_wp2_with fail
      rw [← HQ.out]
      exact ⟨HFar.out, HNX.out⟩
  case done =>
    rintro D W hD hWs hM hK
    have c6 := hM.b6.cell
    have hp : Dk.CR d kept = cd (Dk.cw kept d.waits d.lies d.waits.length) := rfl
    have HM := hide hM
    have HDD := hide hD
    clear hM hD hWs
    gi_wp2_with fail
    refine ⟨by simp, .inl ⟨_, _, rfl, run_takeDeferred hK, ?_⟩⟩
    refine ⟨_, results_tmp2 rfl _ _ _, gd, gl2, cl2, rfl, ?_, ?_, ?_, HGL2.out⟩
    · rw [hp]
      refine HM.out.disk.keep (F := fun k => k = D) (Mod.put17 HM.out.old.size hK) fun k hk q => ?_
      have h1 := HWS.out
      have h2 := HDD.out
      have h3 := HGL3.out
      rcases hk with rfl | rfl | hk
      · omega
      · omega
      · cases hk
    · exact HM.out.old.trans (below_put (by have := HDD.out; have := HWS.out; have := HWV.out; omega) _)
    · have := HWV.out; omega
  case stop =>
    rintro D c pre W hD hWs hpre ⟨rfl, k, hk1, hk2, hp, hb, hko⟩ hK
    have c6 := hb.cell
    have HP := hide hp
    have HKO := hide hko
    have HDD := hide hD
    have hcr : Dk.CR d kept = cd (Dk.cw kept d.waits d.lies k) := by
      show cd (Dk.cw kept d.waits d.lies d.waits.length) = _
      rw [cw_more k hk1 _ hk2]
    clear hp hb hko hD hWs hk1 hk2 hpre
    gi_wp2_with fail
    refine ⟨by simp, .inl ⟨_, _, rfl, run_takeDeferred hK, ?_⟩⟩
    refine ⟨_, results_tmp2 rfl _ _ _, gd, gl2, cl2, rfl, ?_, ?_, ?_, HGL2.out⟩
    · rw [hcr]
      refine HP.out.keep (F := fun k => k = D) (Mod.put17 HKO.out.size hK) fun k hk q => ?_
      have h1 := HWS.out
      have h2 := HDD.out
      have h3 := HGL3.out
      rcases hk with rfl | rfl | hk
      · omega
      · omega
      · cases hk
    · exact HKO.out.trans (below_put (by have := HDD.out; have := HWS.out; have := HWV.out; omega) _)
    · have := HWV.out; omega
end Go.Proofs.Ythhfgcpflclflaa
