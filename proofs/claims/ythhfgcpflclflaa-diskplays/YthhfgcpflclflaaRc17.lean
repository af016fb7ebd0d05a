/- The document's disk: Crash. -/
import Derived.Test.YthhfgcpflclflaaRf17
import Derived.Test.YthhfgcpflclflaaRn17
import Derived.Deep.QuietTactic
import Derived.BigQuiet
import Derived.BigRegion
namespace Go.Proofs.Ythhfgcpflclflaa
open Go.RowKit
set_option linter.unusedVariables false
set_option maxHeartbeats 1000000
set_option maxRecDepth 100000
theorem kp_three (v : Int) : (v < 0 ∧ Dk.kp v = 0) ∨ (¬ v < 0 ∧ 64 < v ∧ Dk.kp v = 64) ∨ (¬ v < 0 ∧ ¬ 64 < v ∧ v = (Dk.kp v : Int)) := by
  unfold Dk.kp
  by_cases h : v < 0
  · exact .inl ⟨h, by rw [if_pos h]⟩
  · by_cases h2 : 64 < v
    · exact .inr (.inl ⟨h, h2, by rw [if_neg h, if_pos h2]⟩)
    · exact .inr (.inr ⟨h, h2, by rw [if_neg h, if_neg h2]; omega⟩)
theorem set_self {α : Type} (l : List α) (i : Nat) (d : α) : l.set i (l.getD i d) = l := by
  apply List.ext_getElem?
  intro j
  rw [List.getElem?_set]
  split
  · rename_i e
    subst e
    split
    · rename_i hl
      simp [List.getD, List.getElem?_eq_getElem hl]
    · rename_i hl
      rw [List.getElem?_eq_none (by omega)]
  · rfl
theorem cw_more {kept : List Int} {ws : List (Nat × List Int)} {ls : List (List Int)} : ∀ k, kept.length ≤ k → ∀ m, k ≤ m → Dk.cw kept ws ls m = Dk.cw kept ws ls k
  | k, hk, m, hm => by
    induction m with
    | zero => obtain rfl : k = 0 := by omega
              rfl
    | succ m ih =>
      rcases Nat.eq_or_lt_of_le hm with e | hlt
      · rw [e]
      · rw [Dk.cw, ih (by omega)]
        have h0 : kept.getD m 0 = 0 := by simp [List.getD, List.getElem?_eq_none (show kept.length ≤ m by omega)]
        rw [h0]
        have h1 : ∀ a b : List Int, Dk.torn 0 a b = b := fun a b => by unfold Dk.torn Dk.kp; simp
        rw [h1, set_self]
theorem ext_take (zs : List Int) (k : Nat) : (str zs).extract 0 k = str (zs.take k) := by
  apply WideShapes.bytes_inj
  simp [str, ByteArray.extract, ByteArray.copySlice]
theorem ext_drop (zs : List Int) (k : Nat) : (str zs).extract k (str zs).size = str (zs.drop k) := by
  apply WideShapes.bytes_inj
  rw [str_size]
  simp [str, List.take_of_length_le]
theorem slice_to (z : List Int) (x : Int) (q : Nat) (hx : x = (q : Int)) (hq : q ≤ z.length) (w : World) : (Instr.slice 9 (.string (str z)) none (some (.int .i64 x)) none).run Try.prog w = .ok (.string (str (z.take q))) w := by
  subst hx
  have h := str_size z
  rw [run_slice_string_to_if w 9 (str z) .i64 (q : Int) Try.underlying9, if_pos (by omega), Int.toNat_natCast, ext_take]
theorem slice_from (z : List Int) (x : Int) (q : Nat) (hx : x = (q : Int)) (hq : q ≤ z.length) (w : World) : (Instr.slice 9 (.string (str z)) (some (.int .i64 x)) none none).run Try.prog w = .ok (.string (str (z.drop q))) w := by
  subst hx
  have h := str_size z
  rw [run_slice_string_from_if w 9 (str z) .i64 (q : Int) Try.underlying9, if_pos (by omega), Int.toNat_natCast, ext_drop]
theorem build_disk2 (a : Option Addr) (n c : Nat) (w : World) : (Instr.build 64 #[(0, .slice a n c), (3, .int .i64 (-1))]).run Try.prog w = .ok (.agg #[.slice a n c, .slice none 0 0, .int .i64 0, .int .i64 (-1)]) w := run_build w 64 _ _ (by kernel_rfl)
theorem rcrash_any (w : World) (g gl cl : Nat) (vw : Value) (d : Dk.Ds) (ak : Option Addr) (nk ck : Nat) (kept : List Int) (h : RD17 w g gl cl vw d) (hw : Dk.Wf d) (hk : Row .i64 w ak nk ck kept) (hlb : d.lies.length * 16 ≤ 140737488355328) :
    Calls Try.prog 31 #[.pointer (some ⟨g, 0, none⟩), .slice ak nk ck] w fun e w' => ∃ g' gl' cl', e = .returned (.pointer (some ⟨g', 0, none⟩)) ∧ RD17 w' g' gl' cl' (.slice none 0 0) (Dk.CR d kept) ∧ KO w w' ∧ w.heap.size ≤ g' ∧ w.heap.size ≤ gl' := by
  obtain ⟨c0, _, _, _⟩ := h.cells
  obtain ⟨aw, cw, hvw, hlw⟩ := h.form
  have hcw : cw ≤ 2 ^ 63 - 1 := by
    rcases h.waits.2 with ⟨q, _⟩ | ⟨_, cap, _, q, _, _, _, hm, _⟩
    · rw [hvw] at q
      simp only [Value.slice.injEq] at q
      omega
    · rw [hvw] at q
      simp only [Value.slice.injEq] at q
      unfold maxLen at hm; omega
  subst hvw
  obtain ⟨ao, co, hvl, hce⟩ := ce_of_owns h.lies
  simp only [Value.slice.injEq] at hvl
  obtain ⟨rfl, _, rfl⟩ := hvl
  have HIN := hide (fun k (hk : k < d.waits.length) => hw.waits _ (Dk.wait_at hk))
  have hn1 := hw.some
  have HCR := hide (show Dk.CR d kept = { lies := Dk.cw kept d.waits d.lies d.waits.length, waits := [], steps := 0, left := -1 } from rfl)
  have HFL := hide (fun k => Dk.cw_len (kept := kept) (ws := d.waits) (ls := d.lies) k)
  have HFC := hide (fun k => Dk.cw_sec (kept := kept) hw.lies hw.waits k)
  have HFS := hide (fun k => show Dk.cw kept d.waits d.lies (k + 1) = (Dk.cw kept d.waits d.lies k).set (d.waits.getD k (0, [])).1 (Dk.torn (kept.getD k 0) (d.waits.getD k (0, [])).2 ((Dk.cw kept d.waits d.lies k).getD (d.waits.getD k (0, [])).1 [])) from rfl)
  have HF0 := hide (show Dk.cw kept d.waits d.lies 0 = d.lies from rfl)
  have HFM := hide (fun k (q : kept.length ≤ k) m (q2 : k ≤ m) => cw_more (ws := d.waits) (ls := d.lies) k q m q2)
  obtain ⟨F, hF⟩ : ∃ F, Dk.cw kept d.waits d.lies = F := ⟨_, rfl⟩
  rw [hF] at HCR HFL HFS HF0 HFM HFC
  obtain ⟨ie, hie, hz0, hz1, hz2⟩ := info_parts strInfo17
  have HII : Hid (Try.prog.info? 9 = some ie) := hie
  have HZ0 := hide hz0
  have HZ1 := hide hz1
  have HZ2 := hide hz2
  have hbd := build_disk2
  have OE := hide (owns_lit0 w 9 1 w.heap.size rfl)
  have KA := hide (show KO w (w.alloc (.cells #[] 9)) from KO.alloc (KO.refl w) _)
  have HE := hide hce
  have H := hide h
  have HK := hide hk
  have HKL := hide hk.len
  have hnk : nk ≤ 2 ^ 63 - 1 := by have := hk.le; have := hk.max; unfold maxLen at this; omega
  have c0a : (w.alloc (.cells #[] 9)).cell? ⟨g, 0, none⟩ = some (.slice (some ⟨gl, 0, none⟩) d.lies.length cl) := KA.out.cell (by exact (Array.getElem?_eq_some_iff.1 h.disk).1) |>.trans c0
  clear h hw hk hce hF hie hz0 hz1 hz2 c0
  obtain ⟨nl, hnl⟩ : ∃ nl, d.lies.length = nl := ⟨_, rfl⟩
  have HNL := hide hnl
  rw [hnl] at HE c0a hlb hn1
  clear hnl
  go_enter Try.func31, Try.ntmps31
  go_wp2_with (first
    | (at_builtin; refine wpList_append_cells _ rfl (.tmp 9) (.tmp 13) 61 rfl w.heap.size 9 ie _ 1 16 Try.underlying61 HII.out HZ0.out HZ1.out HZ2.out rfl (by decide) _ 0 [] rfl OE.out (some ⟨gl, 0, none⟩) nl cl _ rfl (HE.out.below KA.out) (one_all (fun _ => rfl) _) (by omega) (by omega) (by simp) ?_; intro v2 w2 ho2 hg2 hb2; rw [Nat.zero_add, List.nil_append] at ho2; obtain ⟨gl2, cl2, e2, hle2, hcl2⟩ := owns_pos ho2 (by omega); subst e2))
  have KW : KO w w2 := Below.trans KA.out hb2
  have HR0 : Hid (RD17 (w2.alloc (.cells #[.slice (some ⟨gl2, 0, none⟩) nl cl2, .slice none 0 0, .int .i64 0, .int .i64 (-1)] 64)) w2.heap.size gl2 cl2 (.slice none 0 0) { lies := d.lies, waits := [], steps := 0, left := -1 }) :=
    hide ⟨by rw [HNL.out]; exact World.alloc_heap_new w2 _, by rw [HNL.out]; exact owns_mono (ho2.alloc _) (Nat.zero_le _), World.ownsRow_nil _ _ _ _⟩
  have HKW : Hid (KO w (w2.alloc (.cells #[.slice (some ⟨gl2, 0, none⟩) nl cl2, .slice none 0 0, .int .i64 0, .int .i64 (-1)] 64))) := hide (KO.alloc KW _)
  have hg2 : w.heap.size ≤ w2.heap.size := KW.size
  clear ho2 hb2 KW hcl2
  generalize w2.heap.size = g2 at *
  generalize w2.alloc (.cells #[.slice (some ⟨gl2, 0, none⟩) nl cl2, .slice none 0 0, .int .i64 0, .int .i64 (-1)] 64) = W2 at *
  obtain ⟨m, hm⟩ : ∃ m, d.waits.length = m := ⟨_, rfl⟩
  have HM := hide hm
  rw [hm] at hlw
  clear hm
  go_loopw [6] (fun s6 W => ∃ k : Nat, s6 = .int .i64 (k : Int) ∧ k ≤ m ∧ k ≤ nk ∧ Hid (RD17 W g2 gl2 cl2 (.slice none 0 0) { lies := F k, waits := [], steps := 0, left := -1 }) ∧ Hid (KO w W)) (fun s6 _ => m - (intOf s6).toNat)
  case atStart => exact ⟨0, rfl, Nat.zero_le _, Nat.zero_le _, hide (by rw [HF0.out]; exact HR0.out), HKW⟩
  case round =>
    obtain ⟨k, rfl, hkm, hkn, hr, hko⟩ := hrel
    clear HR0 HKW
    have c1 := (H.out.ko hko.out).cells.2.1
    rw [HM.out] at c1
    by_cases hlt : k < m
    · have hin : (k : Int) < (m : Int) := by omega
      by_cases hlt2 : k < nk
      · have hin2 : (k : Int) < (nk : Int) := by omega
        obtain ⟨kb, ko, rfl, _, hkc⟩ := (HK.out.below hko.out).cells (by omega)
        have ck0 := hkc k (by rw [HKL.out]; exact hlt2)
        obtain ⟨gw, cw2, e1, hc⟩ := (H.out.ko hko.out).wait (by rw [HM.out]; omega)
        simp only [Value.slice.injEq] at e1
        obtain ⟨rfl, _, rfl⟩ := e1
        obtain ⟨x0, x1⟩ := hc k (by rw [HM.out]; exact hlt)
        have hyn := (HIN.out k (by rw [HM.out]; exact hlt)).1
        rw [HNL.out] at hyn
        have hst := HFS.out k
        have hsz := (HIN.out k (by rw [HM.out]; exact hlt)).2
        have hsl := HFC.out k (by rw [HM.out]; omega) _ (Dk.lie_at (n := (d.waits.getD k (0, [])).1) (by rw [HFL.out, HNL.out]; exact hyn))
        have c3 := hr.out.lie (n := (d.waits.getD k (0, [])).1) (by show _ < (F k).length; rw [HFL.out, HNL.out]; exact hyn)
        clear hc hkc
        generalize hy : (d.waits.getD k (0, [])).1 = y at *
        generalize hz : (d.waits.getD k (0, [])).2 = z at *
        unfold sv at x1
        obtain ⟨s, hs⟩ : ∃ s, (F k).getD y [] = s := ⟨_, rfl⟩
        rw [hs] at hst hsl
        obtain ⟨v, hv⟩ : ∃ v, kept.getD k 0 = v := ⟨_, rfl⟩
        rw [hv] at hst ck0
        obtain ⟨wb, hwb⟩ : ∃ wb, wr.alloc (.cells #[.int .i64 (y : Int), .string (str z)] 71) = wb := ⟨_, rfl⟩
        have hkb : KO wr wb := by rw [← hwb]; exact KO.alloc (KO.refl wr) _
        have hrb := hr.out.ko hkb
        have hyi : (y : Int) < (nl : Int) := by omega
        have fl : (wb.drew).frozen? ⟨gl2, y, none⟩ = false := (hrb.drewN 1).fzl y
        have cl0 : (wb.drew).cell? ⟨gl2, y, none⟩ = some (.string (str s)) := by rw [← hs]; exact (hrb.drewN 1).lie (n := y) (by show y < (F k).length; rw [HFL.out, HNL.out]; exact hyn)
        have hS0 : Mod (fun q => q = gl2) wb wb.drew := Mod.of_ko (below_drewN wb 1)
        have hgl : gl2 < wr.heap.size := World.block_lt_of_cell? wr _ c3
        have hcg : ∀ w', Mod (fun q => q = gl2) wb w' → w'.cell? ⟨g2, 0, none⟩ = some (.slice (some ⟨gl2, 0, none⟩) nl cl2) := fun w' hm => hm.cell (fun q => hrb.ne1 q.symm) (by have := hrb.cells.1; simp only [HFL.out, HNL.out] at this; exact this)
        have hb0 : ∀ w', Mod (fun q => q = gl2) wb w' → w'.cell? ⟨wr.heap.size, 0, none⟩ = some (.int .i64 (y : Int)) := fun w' hm => hm.cell (by show ¬ wr.heap.size = gl2; omega) (by rw [← hwb, World.cell?_alloc_mark]; rfl)
        have hb1 : ∀ w', Mod (fun q => q = gl2) wb w' → w'.cell? ⟨wr.heap.size, 1, none⟩ = some (.string (str z)) := fun w' hm => hm.cell (by show ¬ wr.heap.size = gl2; omega) (by rw [← hwb, World.cell?_alloc_mark]; rfl)
        have hqz : Dk.kp v ≤ z.length := by rw [hsz.1]; exact Dk.kp_le v
        have hqs : Dk.kp v ≤ s.length := by rw [hsl.1]; exact Dk.kp_le v
        have HTO := hide (slice_to z)
        have HFR := hide (slice_from s)
        have hst2 : sv (Dk.torn v z s) = .string (str (z.take (Dk.kp v)) ++ str (s.drop (Dk.kp v))) := by unfold sv Dk.torn; rw [str_append]
        have HN : Hid (RD17 (wb.setCell ⟨gl2, y, none⟩ (.string (str (z.take (Dk.kp v)) ++ str (s.drop (Dk.kp v))))).drew g2 gl2 cl2 (.slice none 0 0) { lies := F (k + 1), waits := [], steps := 0, left := -1 }) := by
          rw [← hst2, hst]
          exact hide ((hrb.lies' y _).drewN 1)
        have HKN : Hid (KO w (wb.setCell ⟨gl2, y, none⟩ (.string (str (z.take (Dk.kp v)) ++ str (s.drop (Dk.kp v))))).drew) := hide (KO.drew (Below.setCell (Below.trans hko.out (hkb.mono hko.out.size)) (p := ⟨gl2, y, none⟩) hle2 _))
        have H3 := hide (kp_three v)
        clear hst2 hst c3 hs hv hrb hkb hr hko
        obtain ⟨q, hq⟩ : ∃ q, Dk.kp v = q := ⟨_, rfl⟩
        rw [hq] at H3 HN HKN hqz hqs
        clear hq
        rcases H3.out with ⟨h1, hq⟩ | ⟨h1, h2, hq⟩ | ⟨h1, h2, hq⟩
        all_goals (
          first
            | (have hx : (0 : Int) = (q : Int) := by omega
               have hs1 := fun w => HTO.out 0 q hx hqz w
               have hs2 := fun w => HFR.out 0 q hx hqs w)
            | (have hx : (64 : Int) = (q : Int) := by omega
               have hs1 := fun w => HTO.out 64 q hx hqz w
               have hs2 := fun w => HFR.out 64 q hx hqs w)
            | (have hs1 := fun w => HTO.out v q hq hqz w
               have hs2 := fun w => HFR.out v q hq hqs w)
          have e1 : (str z).size = 64 := by rw [str_size]; exact hsz.1
          have e2 : (str s).size = 64 := by rw [str_size]; exact hsl.1
          have e3 : (str (z.take q)).size + (str (s.drop q)).size ≤ 9223372036854775807 := by rw [str_size, str_size, List.length_take, List.length_drop]; have := hsz.1; have := hsl.1; omega
          have E1 := hide (ext_take z q)
          have E2 : Hid ((str s).extract q 64 = str (s.drop q)) := hide (by rw [← ext_drop, e2])
          clear H3 hq hsz hsl
          generalize str (z.take q) = sa at *
          generalize str (s.drop q) = sb at *
          generalize str z = sz at *
          generalize str s = sy at *
          go_wp2_with fail
          try rw [hwb]
          clear x0 x1 c1 ck0 hwb
          have d0 := hcg _ hS0
          have d1 := hb0 _ hS0
          have d2 := hb1 _ hS0
          clear hcg hb0 hb1 hS0
          go_region)
        all_goals (
          clear d0 d1 d2 fl cl0
          go_wp2
          go_roundw
          case rel => exact ⟨k + 1, by go_num, by omega, by omega, by first | exact HN | (rw [E1.out, E2.out]; exact HN), by first | exact HKN | (rw [E1.out, E2.out]; exact HKN)⟩
          case measure => simp [intOf]; omega)
      · obtain rfl : nk = k := by omega
        have hne : ¬ (nk : Int) < (nk : Int) := by omega
        have hfm := HFM.out nk (by rw [HKL.out]; omega) m hkm
        go_wp2
        go_ret
        refine ⟨g2, rfl, gl2, ⟨cl2, ?_⟩, hko.out, hg2, hle2⟩
        rw [HCR.out, HM.out, hfm]
        exact hr.out
    · obtain rfl : m = k := by omega
      have hne : ¬ (m : Int) < (m : Int) := by omega
      go_wp2
      go_ret
      refine ⟨g2, rfl, gl2, ⟨cl2, ?_⟩, hko.out, hg2, hle2⟩
      rw [HCR.out, HM.out]
      exact hr.out
end Go.Proofs.Ythhfgcpflclflaa
