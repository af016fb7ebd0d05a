/- RopePlays: ropes under any calls tell what lists would, and those that were there stay as they were. -/
import Derived.Test.YteiljaecaahonaaPlay
import Derived.Test.YteiljaecaahonaaPlay2
import Derived.Test.YteiljaecaahonaaPlay4
import Derived.Test.YteiljaecaahonaaPlay5
import Derived.Test.YteiljaecaahonaaOwn1
namespace Go.Proofs.Yteiljaecaahonaa
open Go.RowKit
set_option linter.unusedVariables false
set_option maxHeartbeats 4000000
set_option maxRecDepth 100000
theorem play_any (w : World) (rb lb rc lc j : Nat) (hrc : j + 1 ≤ rc) (hlc : j + 1 ≤ lc) (hj : j ≤ 64) (M : Nat) (hM : 200 ≤ M) (hMM : M ≤ 100000)
    (es : Nat → Ent) (hes : ∀ q, q ≤ j → (es q).ok w ∧ (es q).n ≤ M ∧ w.cell? ⟨rb, q, none⟩ = some (.pointer (some ⟨(es q).b, 0, none⟩)) ∧ w.cell? ⟨lb, q, none⟩ = some (.slice (es q).a (es q).n (es q).c)) (hen : (es j).n ≤ 1500)
    (kd fr tu : Int) (hfr : (Lit.int .i64 fr).wf = true) (ta : Option Addr) (tn tc : Nat) (zs : List Int) (hrow : Row .i32 w ta tn tc zs) (hwf : ∀ x ∈ zs, (Lit.int .i32 x).wf = true) (htn : tn ≤ 200) :
    Calls Try.prog 12 #[.slice (some ⟨rb, 0, none⟩) (j + 1) rc, .slice (some ⟨lb, 0, none⟩) (j + 1) lc, .agg #[.int .i64 kd, .int .i64 fr, .int .i64 tu, .slice ta tn tc]] w (Played M w) := by
  obtain ⟨hok, _, cr, cl⟩ := hes j (Nat.le_refl _)
  by_cases g0 : kd = 0
  · subst g0
    by_cases h1 : 0 ≤ fr ∧ fr ≤ fr ∧ fr ≤ ((es j).n : Int)
    · exact play_0v w rb lb rc lc j hrc hlc hj (es j) hok hen M hM cr cl fr tu ta tn tc zs hrow hwf htn h1.1 h1.2.2
    · exact play_0i w rb lb rc lc j hrc hlc hj (es j) hok hen M hM cr cl fr tu ta tn tc zs hrow hwf htn h1
  by_cases g1 : kd = 1
  · subst g1
    by_cases h1 : 0 ≤ fr ∧ fr ≤ tu ∧ tu ≤ ((es j).n : Int)
    · exact play_1v w rb lb rc lc j hrc hlc hj (es j) hok hen M hM cr cl fr tu ta tn tc zs hrow hwf htn h1.1 h1.2.1 h1.2.2
    · exact play_1i w rb lb rc lc j hrc hlc hj (es j) hok hen M hM cr cl fr tu ta tn tc zs hrow hwf htn h1
  by_cases g2 : kd = 2
  · subst g2
    by_cases h1 : 0 ≤ fr ∧ fr ≤ fr ∧ fr ≤ ((es j).n : Int)
    · exact play_2v w rb lb rc lc j hrc hlc hj (es j) hok hen M hM cr cl fr tu ta tn tc zs hrow hwf htn h1.1 h1.2.2
    · exact play_2i w rb lb rc lc j hrc hlc hj (es j) hok hen M hM cr cl fr tu ta tn tc zs hrow hwf htn h1
  by_cases g3 : kd = 3
  · subst g3
    by_cases h1 : 0 ≤ fr ∧ fr ≤ fr ∧ fr ≤ ((es j).n : Int)
    · exact play_3v w rb lb rc lc j hrc hlc hj (es j) hok hen M hM cr cl fr tu ta tn tc zs hrow hwf htn h1.1 h1.2.2
    · exact play_3i w rb lb rc lc j hrc hlc hj (es j) hok hen M hM cr cl fr tu ta tn tc zs hrow hwf htn h1
  by_cases g4 : kd = 4
  · subst g4
    exact play_4 w rb lb rc lc j hrc hlc hj (es j) hok hen M hM cr cl fr tu ta tn tc zs hrow hwf htn hMM hfr es hes
  exact play_5 w rb lb rc lc j hrc hlc hj (es j) hok hen M hM cr cl kd fr tu ta tn tc zs hrow hwf htn g0 g1 g2 g3 g4
theorem Own1.apart {w : World} {base base' : Nat} {e e' : TypeId} {v v' : Value} {xs xs' : List Value} (h : Own1 w base e v xs) (h' : Own1 w base' e' v' xs') (hne : e ≠ e') : v.ownBlock ≠ v'.ownBlock := by
  obtain ⟨g, cap, cur, rfl, _, h2, _⟩ := h
  obtain ⟨g', cap', cur', rfl, _, h2', _⟩ := h'
  intro q
  obtain rfl : g = g' := by simpa [Value.ownBlock] using q
  rw [h2] at h2'
  simp at h2'
  exact hne h2'.2
def ptr (e : Ent) : Value := .pointer (some ⟨e.b, 0, none⟩)
def lst (e : Ent) : Value := .slice e.a e.n e.c
theorem infoP : (Try.prog.info? 24).map (fun i => (i.zero, i.size, i.bytes)) = some (some (.pointer none), 1, 8) := by kernel_rfl
theorem infoL : (Try.prog.info? 22).map (fun i => (i.zero, i.size, i.bytes)) = some (some (.slice none 0 0), 1, 24) := by kernel_rfl
/-- The ropes and the lists, as they lie. -/
structure Hist (w0 : World) (K : Nat) (s5 s6 : Value) (es : List Ent) (w : World) : Prop where
  ropes : Own1 w w0.heap.size 24 s5 (es.map ptr)
  lists : Own1 w w0.heap.size 22 s6 (es.map lst)
  each : ∀ e ∈ es, e.ok w ∧ e.n ≤ K
  old : KO w0 w
theorem Hist.below {w0 : World} {K : Nat} {s5 s6 : Value} {es : List Ent} {w w' : World} (h : Hist w0 K s5 s6 es w) (hb : Below w.heap.size w w') : Hist w0 K s5 s6 es w' :=
  ⟨h.ropes.below hb, h.lists.below hb, fun e he => ⟨(h.each e he).1.below hb, (h.each e he).2⟩, KO.on h.old hb⟩
theorem Hist.mono {w0 : World} {K K' : Nat} {s5 s6 : Value} {es : List Ent} {w : World} (h : Hist w0 K s5 s6 es w) (hk : K ≤ K') : Hist w0 K' s5 s6 es w := ⟨h.ropes, h.lists, fun e he => ⟨(h.each e he).1, Nat.le_trans (h.each e he).2 hk⟩, h.old⟩
/-- What a walk reads of them. -/
theorem Hist.open {w0 : World} {K : Nat} {s5 s6 : Value} {es : List Ent} {w : World} (h : Hist w0 K s5 s6 es w) : ∃ rb lb rc lc, s5 = .slice (some ⟨rb, 0, none⟩) es.length rc ∧ s6 = .slice (some ⟨lb, 0, none⟩) es.length lc ∧ es.length ≤ rc ∧ es.length ≤ lc ∧ rb < w.heap.size ∧ lb < w.heap.size ∧
    ∀ q (hq : q < es.length), w.cell? ⟨rb, q, none⟩ = some (ptr es[q]) ∧ w.cell? ⟨lb, q, none⟩ = some (lst es[q]) := by
  obtain ⟨rb, rc, e1, _, h1, h2, _, h3⟩ := h.ropes.cell
  obtain ⟨lb, lc, e2, _, h4, h5, _, h6⟩ := h.lists.cell
  rw [List.length_map] at e1 e2 h2 h5 h3 h6
  refine ⟨rb, lb, rc, lc, e1, e2, h2, h5, h1, h4, fun q hq => ⟨?_, ?_⟩⟩
  · rw [h3 q hq, List.getElem?_map, List.getElem?_eq_getElem hq]; rfl
  · rw [h6 q hq, List.getElem?_map, List.getElem?_eq_getElem hq]; rfl
theorem Hist.lists9 {w0 : World} {K : Nat} {s5 s6 : Value} {es : List Ent} {w w9 : World} {o : Obj} (h : Hist w0 K s5 s6 es w) (hg : (w.alloc o).grownBy w9 s5.ownBlock) : Own1 w9 w0.heap.size 22 s6 (es.map lst) :=
  (h.lists.alloc o).kept hg ((h.ropes.apart h.lists (by decide)).symm)
theorem Hist.ok9 {w0 : World} {base : Nat} {e : TypeId} {s : Value} {xs : List Value} {w w9 : World} {o : Obj} (h : Own1 w base e s xs) (hg : (w.alloc o).grownBy w9 s.ownBlock) {en : Ent} (hk : en.ok w) : en.ok w9 := by
  have h1 := h.alloc o
  obtain ⟨g, cap, rfl, _, _, _, hp, _⟩ := h1.cell
  exact (hk.below ((Below.refl _ _).alloc (Nat.le_refl _) _)).grown hg hp
theorem Hist.below9 {w0 : World} {e : TypeId} {s : Value} {xs : List Value} {w w9 : World} {o : Obj} (h : Own1 w w0.heap.size e s xs) (hg : (w.alloc o).grownBy w9 s.ownBlock) (hk : KO w0 w) : KO w0 w9 := by
  obtain ⟨g, cap, rfl, hb, _, _, _, _⟩ := h.cell
  exact Below.grown (KO.alloc hk o) hg (Below.size (KO.alloc hk o)) (fun q hq => by simp [Value.ownBlock] at hq; omega)
theorem Hist.snoc {w0 : World} {K K' : Nat} {s5 s6 v9 v10 : Value} {es : List Ent} {en : Ent} {w w9 w10 : World} {o o' : Obj} (h : Hist w0 K s5 s6 es w) (hk : K ≤ K') (hen : en.ok w) (hn : en.n ≤ K')
    (ho9 : Own1 w9 w0.heap.size 24 v9 (es.map ptr ++ [ptr en])) (hg9 : (w.alloc o).grownBy w9 s5.ownBlock) (ho10 : Own1 w10 w0.heap.size 22 v10 (es.map lst ++ [lst en])) (hg10 : (w9.alloc o').grownBy w10 s6.ownBlock) :
    Hist w0 K' v9 v10 (es ++ [en]) w10 := by
  have hl9 := h.lists9 hg9
  refine ⟨?_, ?_, fun e he => ?_, Hist.below9 hl9 hg10 (Hist.below9 h.ropes hg9 h.old)⟩
  · rw [List.map_append]; exact (ho9.alloc o').kept hg10 (ho9.apart hl9 (by decide))
  · rw [List.map_append]; exact ho10
  · rcases List.mem_append.1 he with he | he
    · exact ⟨Hist.ok9 (w0 := w0) hl9 hg10 (Hist.ok9 (w0 := w0) h.ropes hg9 (h.each e he).1), Nat.le_trans (h.each e he).2 hk⟩
    · simp only [List.mem_singleton] at he
      subst he
      exact ⟨Hist.ok9 (w0 := w0) hl9 hg10 (Hist.ok9 (w0 := w0) h.ropes hg9 hen), hn⟩
theorem meas_q (j q : Nat) (h : q < j + 1) : j + 1 - (intOf (.int .i64 ((q + 1 : Nat) : Int))).toNat < j + 1 - (intOf (.int .i64 (q : Int))).toNat := by simp [intOf]; omega
theorem RopePlays_walk (w : World) (a0 : Option Addr) (n0 cap0 : Nat) (l : List Int) (h0 : Row .i32 w a0 n0 cap0 l) (hf0 : ∀ x ∈ l, (Lit.int .i32 x).wf = true) (hs0 : n0 * 4 ≤ 140737488351232)
    (a1 : Option Addr) (n1 cap1 : Nat) (h1 : Acts w a1 n1 cap1) :
    Calls Try.prog 3 #[.slice a0 n0 cap0, .slice a1 n1 cap1] w fun e w' => e = .returned (.bool true) ∧ Below w.heap.size w w' := by
  by_cases hbig : n0 ≤ 1000
  · have e0 : decide ((1000 : Int) < (n0 : Int)) = false := decide_eq_false (by omega)
    have e0n : ¬ ((1000 : Int) < (n0 : Int)) := by omega
    have HNEW := hide (new_any a0 n0 cap0 l w h0 hf0 (by omega))
    have H0 := hide h0
    have HF0 := hide hf0
    have H1 := hide h1
    obtain ⟨ip, hip, hp0, hp1, hp2⟩ := info_parts infoP
    have HIP : Hid (Try.prog.info? 24 = some ip) := hip
    have HP0 := hide hp0
    have HP1 := hide hp1
    have HP2 := hide hp2
    obtain ⟨il, hil, hl0, hl1, hl2⟩ := info_parts infoL
    have HIL : Hid (Try.prog.info? 22 = some il) := hil
    have HL0 := hide hl0
    have HL1 := hide hl1
    have HL2 := hide hl2
    clear h0 hf0 hs0 h1 hip hp0 hp1 hp2 hil hl0 hl1 hl2
    go_enter Try.func3, Try.ntmps3
    go_wp2_with fail
    refine HNEW.out.mono ?_
    rintro e w2 ⟨b, t, rfl, hr, hl, hb2⟩
    obtain ⟨W3, hW3⟩ : ∃ W3, (w2.alloc (.cells #[.pointer (some ⟨b, 0, none⟩)] 24)).alloc (.cells #[.slice a0 n0 cap0] 22) = W3 := ⟨_, rfl⟩
    have k23 : KO w2 W3 := by rw [← hW3]; exact KO.alloc (KO.alloc (KO.refl _) _) _
    have hH3 : Hist w 1000 (.slice (some ⟨w2.heap.size, 0, none⟩) 1 1) (.slice (some ⟨w2.heap.size + 1, 0, none⟩) 1 1) [⟨b, t, a0, n0, cap0, l⟩] W3 := by
      have hsz := hb2.size
      refine ⟨?_, ?_, fun e he => ?_, KO.on hb2 k23⟩
      · rw [← hW3]; exact (own1_new w2 w.heap.size 24 (.pointer (some ⟨b, 0, none⟩)) hsz rfl).alloc _
      · rw [← hW3]
        have := own1_new (w2.alloc (.cells #[.pointer (some ⟨b, 0, none⟩)] 24)) w.heap.size 22 (.slice a0 n0 cap0) (by simp; omega) rfl
        rw [World.size_alloc] at this; exact this
      · simp only [List.mem_singleton] at he
        subst he
        exact ⟨⟨hr.below k23, H0.out.below (KO.on hb2 k23), HF0.out, hl⟩, hbig⟩
    have c3 : W3.cell? ⟨w2.heap.size, 0, none⟩ = some (.pointer (some ⟨b, 0, none⟩)) := by
      rw [← hW3, World.cell?_alloc_past _ _ _ (by simp), World.cell?_alloc_mark]; rfl
    have HH3 := hide hH3
    have HTL := hide (tells_any b t a0 n0 cap0 l W3 (hr.below k23) (H0.out.below (KO.on hb2 k23)) HF0.out hl (by omega))
    clear hr hl hb2 k23 hH3
    go_wp2_with (go_at_call 10; refine HTL.out.mono ?_; rintro e w4 ⟨rfl, hb4⟩)
    have HH4 := hide (HH3.out.below hb4)
    clear hb4 hW3 c3
    go_loopw [5, 6, 7] (fun s5 s6 s7 wr => ∃ (i : Nat) (es : List Ent), s7 = .int .i64 (i : Int) ∧ i ≤ 40 ∧ 0 < es.length ∧ es.length ≤ i + 1 ∧ Hid (Hist w (1000 + 1700 * i) s5 s6 es wr)) (fun _ _ s7 _ => 40 - (intOf s7).toNat)
    case atStart => exact ⟨0, [⟨b, t, a0, n0, cap0, l⟩], rfl, by omega, by simp, by simp, HH4⟩
    case round =>
      obtain ⟨i, es, rfl, hi, hes0, hes1, hH⟩ := hrel
      obtain ⟨rb, lb, rc, lc, rfl, rfl, hrc, hlc, hrb, hlb, hcc⟩ := hH.out.open
      obtain ⟨j, hj⟩ : ∃ j, es.length = j + 1 := ⟨es.length - 1, by omega⟩
      rw [hj] at hrc hlc hH hes1
      rw [hj]
      have HJ := hide hj
      have HC0 := hide hcc
      have HRB := hide hrb
      have HLB := hide hlb
      have hj40 : j ≤ 40 := by omega
      clear hj hcc hrb hlb
      by_cases hin : i < n1
      · have e1 : (i : Int) < (n1 : Int) := by omega
        by_cases hi40 : i < 40
        · have e2 : (i : Int) < 40 := by omega
          obtain ⟨ba, oa, rfl, hba, hact⟩ := H1.out.cells (by omega)
          obtain ⟨kd, fr, tu, ta, tn, tc, zs, hA0⟩ := hact i hin
          have hA := hA0.below hH.out.old hba
          have c0 := hA.c0
          have c1 := hA.c1
          have c2 := hA.c2
          have c3 := hA.c3
          obtain ⟨W5, hW5⟩ : ∃ W5, wr.alloc (.cells #[.int .i64 kd, .int .i64 fr, .int .i64 tu, .slice ta tn tc] 30) = W5 := ⟨_, rfl⟩
          have hk5 : KO wr W5 := by rw [← hW5]; exact KO.alloc (KO.refl _) _
          have hx5 : wr.heap.size < W5.heap.size := by rw [← hW5]; simp
          have hx : ∀ j, W5.cell? ⟨wr.heap.size, j, none⟩ = (#[.int .i64 kd, .int .i64 fr, .int .i64 tu, .slice ta tn tc] : Array Value)[j]? := fun j => by rw [← hW5, World.cell?_alloc_mark]
          have x3 : W5.cell? ⟨wr.heap.size, 3, none⟩ = some (.slice ta tn tc) := hx 3
          have hje : j < es.length := by have := HJ.out; omega
          have hcj := HC0.out j hje
          have hej := hH.out.each es[j] (List.getElem_mem _)
          obtain ⟨en, hen⟩ : ∃ en, es[j] = en := ⟨_, rfl⟩
          rw [hen] at hcj hej
          obtain ⟨bj, tj, aj, nj, cj, lj⟩ := en
          have g6 : W5.cell? ⟨lb, j, none⟩ = some (.slice aj nj cj) := (Below.cell hk5 (by exact HLB.out)).trans hcj.2
          have ej : (j : Int) < (j : Int) + 1 := by omega
          have HA := hide hA
          have HEN := hide (show es[j]? = some ⟨bj, tj, aj, nj, cj, lj⟩ from by rw [List.getElem?_eq_getElem hje, hen])
          have HEJ := hide hej
          have HK5 := hide hk5
          have HX5 := hide hx5
          have HXX := hide hx
          have HH5 := hide (hH.out.below hk5)
          have HKX : Hid (KO wr W5) := HK5
          have hnj := hej.2
          dsimp only at hnj
          clear hact hA0 hA hba hx hx5 hcj hej hen hk5 hje
          by_cases htn : tn ≤ 200
          · have e4 : ¬ ((200 : Int) < (tn : Int)) := by omega
            by_cases hn15 : nj ≤ 1500
            · have e5 : ¬ ((1500 : Int) < (nj : Int)) := by omega
              go_wp2_with fail
              have hr5 : ∀ w', KO W5 w' → w'.cell? ⟨rb, j, none⟩ = some (.pointer (some ⟨bj, 0, none⟩)) := fun w' hk => (Below.cell (p := ⟨rb, j, none⟩) hk (by exact Nat.lt_of_lt_of_le HRB.out (Below.size HK5.out))).trans ((Below.cell (p := ⟨rb, j, none⟩) HK5.out (by exact HRB.out)).trans (by
                have h9 : j < es.length := by have := HJ.out; omega
                have h8 := (HC0.out j h9).1
                have h7 := HEN.out
                rw [List.getElem?_eq_getElem h9, Option.some.injEq] at h7
                rw [h7] at h8; exact h8))
              have hl5 : ∀ w', KO W5 w' → w'.cell? ⟨lb, j, none⟩ = some (.slice aj nj cj) := fun w' hk => (Below.cell (p := ⟨lb, j, none⟩) hk (by exact Nat.lt_of_lt_of_le HLB.out (Below.size HK5.out))).trans g6
              have hx1 : ∀ w', KO W5 w' → w'.cell? ⟨wr.heap.size, 1, none⟩ = some (.int .i64 fr) := fun w' hk => (Below.cell hk (by exact HX5.out)).trans (HXX.out 1)
              have hx2 : ∀ w', KO W5 w' → w'.cell? ⟨wr.heap.size, 2, none⟩ = some (.int .i64 tu) := fun w' hk => (Below.cell hk (by exact HX5.out)).trans (HXX.out 2)
              have HASK := hide (fun w' (hk : KO W5 w') => (fun (hok : Ent.ok w' ⟨bj, tj, aj, nj, cj, lj⟩) => asked_any bj tj aj nj cj lj w' hok.rope hok.row hok.wf hok.same (by omega) fr tu) ((HEJ.out.1.below HK5.out).below hk))
              have ew1 : IntKind.i64.wrap ((j : Int) + 1 - 1) = (j : Int) := by rw [IntKind.wrap_i64]; omega
              have ew2 : IntKind.i64.wrap (j : Int) = (j : Int) := by rw [IntKind.wrap_i64]; omega
              have hK : KO W5 W5 := KO.refl _
              have hKd : KO W5 W5.drew := KO.drew hK
              clear c0 c1 c2 c3 x3 hW5
              refine wp_region_noPanic ?_
              go_region_held (fun w' => KO W5 w') (first | assumption)
                (first | (go_at_call 11; refine (HASK.out _ (by assumption)).mono ?_; rintro r w6 ⟨rfl, hb6⟩; have hk6 : KO W5 w6 := Below.trans (by assumption) (hb6.mono (by have : KO W5 _ := (by assumption); exact this.size))))
              all_goals
                refine NoPanic.normal ?_
                have HK6 := hide hk6
                have y0 : w6.cell? ⟨wr.heap.size, 0, none⟩ = some (.int .i64 kd) := (Below.cell hk6 (by exact HX5.out)).trans (HXX.out 0)
                have y1 : w6.cell? ⟨wr.heap.size, 1, none⟩ = some (.int .i64 fr) := (Below.cell hk6 (by exact HX5.out)).trans (HXX.out 1)
                have y2 : w6.cell? ⟨wr.heap.size, 2, none⟩ = some (.int .i64 tu) := (Below.cell hk6 (by exact HX5.out)).trans (HXX.out 2)
                have y3 : w6.cell? ⟨wr.heap.size, 3, none⟩ = some (.slice ta tn tc) := (Below.cell hk6 (by exact HX5.out)).trans (HXX.out 3)
                have HH6 := hide (HH5.out.below hk6)
                have HKR6 := hide (KO.on HK5.out hk6)
                have HPL := hide (play_any w6 rb lb rc lc j hrc hlc (by omega) (1000 + 1700 * i) (by omega) (by omega) (fun q => es.getD q ⟨bj, tj, aj, nj, cj, lj⟩)
                  (fun q hq => by
                    have h9 : q < es.length := by have := HJ.out; omega
                    have h8 : es.getD q ⟨bj, tj, aj, nj, cj, lj⟩ = es[q] := by simp [List.getD, List.getElem?_eq_getElem h9]
                    have h7 := HH6.out.each es[q] (List.getElem_mem _)
                    rw [h8]
                    exact ⟨h7.1, h7.2, (Below.cell (p := ⟨rb, q, none⟩) HKR6.out (by exact HRB.out)).trans (HC0.out q h9).1, (Below.cell (p := ⟨lb, q, none⟩) HKR6.out (by exact HLB.out)).trans (HC0.out q h9).2⟩)
                  (by
                    have h7 := HEN.out
                    show (es.getD j ⟨bj, tj, aj, nj, cj, lj⟩).n ≤ 1500
                    simp [List.getD, h7]; omega)
                  kd fr tu HA.out.f1 ta tn tc zs (HA.out.row.below HKR6.out) HA.out.wf htn)
                clear hk6 hb6 hK hKd hr5 hl5 hx1 hx2 g6 ew1 ew2
                go_wp2_with fail
                refine HPL.out.mono ?_
                rintro r w7 ⟨hb7, hcase⟩
                have HH7 := hide (HH6.out.below hb7)
                clear hb7 y0 y1 y2 y3
                rcases hcase with rfl | ⟨en, rfl, hok7, hn7⟩
                · go_wp2_with fail
                  go_roundw
                  case rel => exact ⟨i + 1, es, by go_num, by omega, hes0, by have := HJ.out; omega, hide (HH7.out.mono (by omega))⟩
                  case measure => simp [intOf]; omega
                · obtain ⟨be, te, ae, ne, ce, le⟩ := en
                  dsimp only at hn7
                  have HOK7 := hide hok7
                  have HTE := hide (tells_any be te ae ne ce le w7 hok7.rope hok7.row hok7.wf hok7.same (by omega))
                  clear hok7
                  dsimp only
                  have hlen40 : (es.map ptr).length ≤ 1000 ∧ (es.map lst).length ≤ 1000 := by rw [List.length_map, List.length_map]; have := HJ.out; omega
                  have HLEN := hide hlen40
                  clear hlen40
                  go_wp2_with (first
                    | (go_at_call 10; refine HTE.out.mono ?_; rintro r w8 ⟨rfl, hb8⟩; have HH8 := hide (HH7.out.below hb8); have HOK8 := hide (HOK7.out.below hb8); clear hb8)
                    | (at_builtin; refine wpList_append1 _ rfl (.tmp 92) (.tmp 94) 26 rfl w.heap.size 24 ip (.pointer none) Try.underlying26 HIP.out HP0.out HP1.out (by rw [HP2.out]; omega) rfl rfl _ (es.map ptr) rfl (HH8.out.ropes.alloc _) ⟨w8.heap.size, 0, none⟩ (.pointer (some ⟨be, 0, none⟩)) rfl (by rw [World.cell?_alloc_mark]; rfl) rfl rfl HLEN.out.1 (Nat.le_trans (Below.size HH8.out.old) (by simp)) ?_; intro v9 w9 ho9 hg9; have HL9 := hide (HH8.out.lists9 hg9); have HK9 := hide (Hist.below9 HH8.out.ropes hg9 HH8.out.old))
                    | (at_builtin; refine wpList_append1 _ rfl (.tmp 96) (.tmp 98) 27 rfl w.heap.size 22 il (.slice none 0 0) Try.underlying27 HIL.out HL0.out HL1.out (by rw [HL2.out]; omega) rfl rfl _ (es.map lst) rfl (HL9.out.alloc _) ⟨w9.heap.size, 0, none⟩ (.slice ae ne ce) rfl (by rw [World.cell?_alloc_mark]; rfl) rfl rfl HLEN.out.2 (Nat.le_trans (Below.size HK9.out) (by simp)) ?_; intro v10 w10 ho10 hg10))
                  have hfin : Hist w (1000 + 1700 * (i + 1)) v9 v10 (es ++ [⟨be, te, ae, ne, ce, le⟩]) w10 := HH8.out.snoc (by omega) HOK8.out (by show ne ≤ _; omega) ho9 hg9 ho10 hg10
                  have HFIN := hide hfin
                  clear hfin ho9 hg9 ho10 hg10
                  go_roundw
                  case rel => exact ⟨i + 1, es ++ [⟨be, te, ae, ne, ce, le⟩], by go_num, by omega, by simp, by rw [List.length_append]; have := HJ.out; simp; omega, HFIN⟩
                  case measure => simp [intOf]; omega
            · have e5 : (1500 : Int) < (nj : Int) := by omega
              have HX := HH5
              have HCC := hide (fun (q : Nat) (hq : q < es.length) => (show W5.cell? ⟨rb, q, none⟩ = some (ptr es[q]) ∧ W5.cell? ⟨lb, q, none⟩ = some (lst es[q]) from ⟨(Below.cell (p := ⟨rb, q, none⟩) HKX.out (by exact HRB.out)).trans (HC0.out q hq).1, (Below.cell (p := ⟨lb, q, none⟩) HKX.out (by exact HLB.out)).trans (HC0.out q hq).2⟩))
              have HRX := hide (Nat.lt_of_lt_of_le HRB.out (Below.size HKX.out))
              have HLX := hide (Nat.lt_of_lt_of_le HLB.out (Below.size HKX.out))
              go_wp2_with fail
              clear HKX
              generalize W5 = X9 at *
              go_loopw [102] (fun v wi => ∃ q : Nat, v = .int .i64 (q : Int) ∧ q ≤ j + 1 ∧ Hid (KO X9 wi)) (fun v _ => j + 1 - (intOf v).toNat)
              case atStart => exact ⟨0, rfl, Nat.zero_le _, KO.refl _⟩
              case round =>
                obtain ⟨q, rfl, hq1, hkq⟩ := hrel
                by_cases hq : q < j + 1
                · have hqe : q < es.length := by have := HJ.out; omega
                  have hc := HCC.out q hqe
                  have he := HX.out.each es[q] (List.getElem_mem _)
                  obtain ⟨en, hen⟩ : ∃ en, es[q] = en := ⟨_, rfl⟩
                  rw [hen] at hc he
                  obtain ⟨bq, tq, aq, nq, cq, lq⟩ := en
                  have hok := he.1.below hkq.out
                  have g5 : wr.cell? ⟨rb, q, none⟩ = some (.pointer (some ⟨bq, 0, none⟩)) := (Below.cell hkq.out (by exact HRX.out)).trans hc.1
                  have g6 : wr.cell? ⟨lb, q, none⟩ = some (.slice aq nq cq) := (Below.cell hkq.out (by exact HLX.out)).trans hc.2
                  have hnq := he.2
                  dsimp only at hnq
                  have HT := hide (tells_any bq tq aq nq cq lq wr hok.rope hok.row hok.wf hok.same (by omega))
                  have eq1 : (q : Int) < (j : Int) + 1 := by omega
                  have HQ := hide hq
                  clear hc he hen hok hqe hq
                  go_wp2_with (go_at_call 10; refine HT.out.mono ?_; rintro e w6 ⟨rfl, hb6⟩)
                  exact ⟨⟨q + 1, by go_num, HQ.out, hide (KO.on hkq.out hb6)⟩, meas_q j q HQ.out⟩
                · have eq1 : ¬ ((q : Int) < (j : Int) + 1) := by omega
                  clear hq
                  go_wp2_with fail
                  go_ret
                  exact ⟨rfl, KO.on HX.out.old hkq.out⟩
          · have e4 : (200 : Int) < (tn : Int) := by omega
            have HX := HH5
            have HCC := hide (fun (q : Nat) (hq : q < es.length) => (show W5.cell? ⟨rb, q, none⟩ = some (ptr es[q]) ∧ W5.cell? ⟨lb, q, none⟩ = some (lst es[q]) from ⟨(Below.cell (p := ⟨rb, q, none⟩) HKX.out (by exact HRB.out)).trans (HC0.out q hq).1, (Below.cell (p := ⟨lb, q, none⟩) HKX.out (by exact HLB.out)).trans (HC0.out q hq).2⟩))
            have HRX := hide (Nat.lt_of_lt_of_le HRB.out (Below.size HKX.out))
            have HLX := hide (Nat.lt_of_lt_of_le HLB.out (Below.size HKX.out))
            go_wp2_with fail
            clear HKX
            generalize W5 = X9 at *
            go_loopw [102] (fun v wi => ∃ q : Nat, v = .int .i64 (q : Int) ∧ q ≤ j + 1 ∧ Hid (KO X9 wi)) (fun v _ => j + 1 - (intOf v).toNat)
            case atStart => exact ⟨0, rfl, Nat.zero_le _, KO.refl _⟩
            case round =>
              obtain ⟨q, rfl, hq1, hkq⟩ := hrel
              by_cases hq : q < j + 1
              · have hqe : q < es.length := by have := HJ.out; omega
                have hc := HCC.out q hqe
                have he := HX.out.each es[q] (List.getElem_mem _)
                obtain ⟨en, hen⟩ : ∃ en, es[q] = en := ⟨_, rfl⟩
                rw [hen] at hc he
                obtain ⟨bq, tq, aq, nq, cq, lq⟩ := en
                have hok := he.1.below hkq.out
                have g5 : wr.cell? ⟨rb, q, none⟩ = some (.pointer (some ⟨bq, 0, none⟩)) := (Below.cell hkq.out (by exact HRX.out)).trans hc.1
                have g6 : wr.cell? ⟨lb, q, none⟩ = some (.slice aq nq cq) := (Below.cell hkq.out (by exact HLX.out)).trans hc.2
                have hnq := he.2
                dsimp only at hnq
                have HT := hide (tells_any bq tq aq nq cq lq wr hok.rope hok.row hok.wf hok.same (by omega))
                have eq1 : (q : Int) < (j : Int) + 1 := by omega
                have HQ := hide hq
                clear hc he hen hok hqe hq
                go_wp2_with (go_at_call 10; refine HT.out.mono ?_; rintro e w6 ⟨rfl, hb6⟩)
                exact ⟨⟨q + 1, by go_num, HQ.out, hide (KO.on hkq.out hb6)⟩, meas_q j q HQ.out⟩
              · have eq1 : ¬ ((q : Int) < (j : Int) + 1) := by omega
                clear hq
                go_wp2_with fail
                go_ret
                exact ⟨rfl, KO.on HX.out.old hkq.out⟩
        · have e2 : ¬ ((i : Int) < 40) := by omega
          have HKX : Hid (KO wr wr) := KO.refl _
          have HX := hH
          have HCC := hide (fun (q : Nat) (hq : q < es.length) => (show wr.cell? ⟨rb, q, none⟩ = some (ptr es[q]) ∧ wr.cell? ⟨lb, q, none⟩ = some (lst es[q]) from ⟨(Below.cell (p := ⟨rb, q, none⟩) HKX.out (by exact HRB.out)).trans (HC0.out q hq).1, (Below.cell (p := ⟨lb, q, none⟩) HKX.out (by exact HLB.out)).trans (HC0.out q hq).2⟩))
          have HRX := hide (Nat.lt_of_lt_of_le HRB.out (Below.size HKX.out))
          have HLX := hide (Nat.lt_of_lt_of_le HLB.out (Below.size HKX.out))
          go_wp2_with fail
          clear HKX
          generalize wr = X9 at *
          go_loopw [102] (fun v wi => ∃ q : Nat, v = .int .i64 (q : Int) ∧ q ≤ j + 1 ∧ Hid (KO X9 wi)) (fun v _ => j + 1 - (intOf v).toNat)
          case atStart => exact ⟨0, rfl, Nat.zero_le _, KO.refl _⟩
          case round =>
            obtain ⟨q, rfl, hq1, hkq⟩ := hrel
            by_cases hq : q < j + 1
            · have hqe : q < es.length := by have := HJ.out; omega
              have hc := HCC.out q hqe
              have he := HX.out.each es[q] (List.getElem_mem _)
              obtain ⟨en, hen⟩ : ∃ en, es[q] = en := ⟨_, rfl⟩
              rw [hen] at hc he
              obtain ⟨bq, tq, aq, nq, cq, lq⟩ := en
              have hok := he.1.below hkq.out
              have g5 : wr.cell? ⟨rb, q, none⟩ = some (.pointer (some ⟨bq, 0, none⟩)) := (Below.cell hkq.out (by exact HRX.out)).trans hc.1
              have g6 : wr.cell? ⟨lb, q, none⟩ = some (.slice aq nq cq) := (Below.cell hkq.out (by exact HLX.out)).trans hc.2
              have hnq := he.2
              dsimp only at hnq
              have HT := hide (tells_any bq tq aq nq cq lq wr hok.rope hok.row hok.wf hok.same (by omega))
              have eq1 : (q : Int) < (j : Int) + 1 := by omega
              have HQ := hide hq
              clear hc he hen hok hqe hq
              go_wp2_with (go_at_call 10; refine HT.out.mono ?_; rintro e w6 ⟨rfl, hb6⟩)
              exact ⟨⟨q + 1, by go_num, HQ.out, hide (KO.on hkq.out hb6)⟩, meas_q j q HQ.out⟩
            · have eq1 : ¬ ((q : Int) < (j : Int) + 1) := by omega
              clear hq
              go_wp2_with fail
              go_ret
              exact ⟨rfl, KO.on HX.out.old hkq.out⟩
      · have e1 : ¬ ((i : Int) < (n1 : Int)) := by omega
        have HKX : Hid (KO wr wr) := KO.refl _
        have HX := hH
        have HCC := hide (fun (q : Nat) (hq : q < es.length) => (show wr.cell? ⟨rb, q, none⟩ = some (ptr es[q]) ∧ wr.cell? ⟨lb, q, none⟩ = some (lst es[q]) from ⟨(Below.cell (p := ⟨rb, q, none⟩) HKX.out (by exact HRB.out)).trans (HC0.out q hq).1, (Below.cell (p := ⟨lb, q, none⟩) HKX.out (by exact HLB.out)).trans (HC0.out q hq).2⟩))
        have HRX := hide (Nat.lt_of_lt_of_le HRB.out (Below.size HKX.out))
        have HLX := hide (Nat.lt_of_lt_of_le HLB.out (Below.size HKX.out))
        go_wp2_with fail
        clear HKX
        generalize wr = X9 at *
        go_loopw [102] (fun v wi => ∃ q : Nat, v = .int .i64 (q : Int) ∧ q ≤ j + 1 ∧ Hid (KO X9 wi)) (fun v _ => j + 1 - (intOf v).toNat)
        case atStart => exact ⟨0, rfl, Nat.zero_le _, KO.refl _⟩
        case round =>
          obtain ⟨q, rfl, hq1, hkq⟩ := hrel
          by_cases hq : q < j + 1
          · have hqe : q < es.length := by have := HJ.out; omega
            have hc := HCC.out q hqe
            have he := HX.out.each es[q] (List.getElem_mem _)
            obtain ⟨en, hen⟩ : ∃ en, es[q] = en := ⟨_, rfl⟩
            rw [hen] at hc he
            obtain ⟨bq, tq, aq, nq, cq, lq⟩ := en
            have hok := he.1.below hkq.out
            have g5 : wr.cell? ⟨rb, q, none⟩ = some (.pointer (some ⟨bq, 0, none⟩)) := (Below.cell hkq.out (by exact HRX.out)).trans hc.1
            have g6 : wr.cell? ⟨lb, q, none⟩ = some (.slice aq nq cq) := (Below.cell hkq.out (by exact HLX.out)).trans hc.2
            have hnq := he.2
            dsimp only at hnq
            have HT := hide (tells_any bq tq aq nq cq lq wr hok.rope hok.row hok.wf hok.same (by omega))
            have eq1 : (q : Int) < (j : Int) + 1 := by omega
            have HQ := hide hq
            clear hc he hen hok hqe hq
            go_wp2_with (go_at_call 10; refine HT.out.mono ?_; rintro e w6 ⟨rfl, hb6⟩)
            exact ⟨⟨q + 1, by go_num, HQ.out, hide (KO.on hkq.out hb6)⟩, meas_q j q HQ.out⟩
          · have eq1 : ¬ ((q : Int) < (j : Int) + 1) := by omega
            clear hq
            go_wp2_with fail
            go_ret
            exact ⟨rfl, KO.on HX.out.old hkq.out⟩
  · have e0 : (1000 : Int) < (n0 : Int) := by omega
    clear h0 hf0 hs0 hbig
    go_enter Try.func3, Try.ntmps3
    go_wp2_with fail
    go_ret
    exact ⟨rfl, Below.refl _ _⟩
end Go.Proofs.Yteiljaecaahonaa
