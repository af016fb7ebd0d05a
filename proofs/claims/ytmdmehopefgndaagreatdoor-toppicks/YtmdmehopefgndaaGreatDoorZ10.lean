import Derived.Test.YtmdmehopefgndaaGreatDoorZ09
import Derived.Deep.WholeRow
import Derived.Great.BuildSlice
import Derived.Deep.RegionHeld3
import Derived.Deep.RegionHeldLaw
import Derived.Deep.RegionLaw
import Derived.Deep.LoopGhost
/- The stack's methods that tell and change: tell, embed, isolate, takenAs. -/
namespace Go.Proofs.YtmdmehopefgndaaGreatDoor
open Go.RowKit
set_option linter.unusedVariables false
set_option maxHeartbeats 1000000
set_option maxRecDepth 100000
theorem tell_any {B : Nat} {w : World} {p : Nat} {S : Ex.St} {g cap : Nat} (h : SA B w p S g cap) {b : Int} (hc : Ex.Chain b S.st) (x : Int) :
    Calls Tryz.prog 55 #[.pointer (some ⟨p, 0, none⟩), .int .i64 x] w fun e w' => e = .returned (.tuple #[.int .i64 (Ex.tl b S x), .int .i64 (Ex.ty S x)]) ∧ Below w.heap.size w w' := by
  have HR := hide (removed_any x w)
  have HL := hide (last_any h hc.pos)
  cases hr : Ex.rm x with
  | true =>
    have e1 : Ex.tl b S x = -1 := by unfold Ex.tl; rw [if_pos hr]
    have e2 : Ex.ty S x = x := by unfold Ex.ty; rw [if_pos hr]
    rw [e1, e2]
    rw [hr] at HR
    clear e1 e2 hr h hc HL
    go_enter Tryz.func55, Tryz.ntmps55
    go_wp2_with (go_at_call 67; refine HR.out.mono ?_; rintro e w2 ⟨rfl, rfl⟩)
    go_ret2
    exact ⟨rfl, Below.refl _ _⟩
  | false =>
    rw [hr] at HR
    by_cases hx : x = 11
    · have e1 : Ex.tl b S x = b := by unfold Ex.tl; rw [if_neg (by rw [hr]; decide), if_pos hx]
      have e2 : Ex.ty S x = x := by unfold Ex.ty; rw [if_neg (by rw [hr]; decide), if_pos hx]
      rw [e1, e2]
      have c0 := h.c0
      obtain ⟨t0, _, _⟩ := h.bot hc
      have hp := hc.pos
      have hcap := h.caps
      unfold maxLen at hcap
      generalize S.st.length = n at *
      have hpi : (0 : Int) < (n : Int) := by omega
      clear e1 e2 hr h hc HL
      subst hx
      go_enter Tryz.func55, Tryz.ntmps55
      go_wp2_with (go_at_call 67; refine HR.out.mono ?_; rintro e w2 ⟨rfl, rfl⟩)
      go_ret2
      exact ⟨rfl, Below.refl _ _⟩
    · have e1 : Ex.tl b S x = (Ex.hd S.st).lv := by unfold Ex.tl; rw [if_neg (by rw [hr]; decide), if_neg hx]
      have e2 : Ex.ty S x = if (Ex.hd S.st).ov = 0 then x else (Ex.hd S.st).ov := by unfold Ex.ty; rw [if_neg (by rw [hr]; decide), if_neg hx]
      rw [e1, e2]
      have ho := hc.ov
      have hx2 : (x == 11) = false := beq_false_of_ne hx
      generalize (Ex.hd S.st).lv = l at *
      generalize (Ex.hd S.st).ov = ov at *
      generalize (Ex.hd S.st).is = is at *
      have ho3 : ov = 0 ∨ ov = 1 ∨ ov = 2 := by omega
      clear e1 e2 hr h hc hx ho
      rcases ho3 with rfl | rfl | rfl
      all_goals
        go_enter Tryz.func55, Tryz.ntmps55
        go_wp2_with (first
          | (go_at_call 67; refine HR.out.mono ?_; rintro e w2 ⟨rfl, rfl⟩)
          | (go_at_call 65; refine HL.out.mono ?_; rintro e w1 ⟨rfl, hb1⟩))
        go_ret2
        exact ⟨rfl, Below.alloc hb1 hb1.size _⟩
theorem step_append_ent {P : Program} (w : World) {ops : Array Oper} {o : Oper} {a : Act} {K : Act → World → Prop} {Q : Exit → Act → World → Prop} {E : Prop} (hgd : o.guard = none) (s x : Operand) (t : TypeId)
    (ho : o.op = .call { callee := .builtin .append, args := #[s, x], argTypes := #[t, t] })
    (base : Nat) (e : TypeId) (i : TypeInfo) (z : Value) (ht : P.underlying t = some (.slice e)) (hi : P.info? e = some i) (hz : i.zero = some z)
    (hsize : i.size = 3) (hby : i.bytes = 24) (hzs : z.cells.size = 3)
    (v : Value) (n : Nat) (xs : List Value) (hs : a.eval s = v) (en : Ex.Ent) (hown : w.ownsRow base e 3 v n xs)
    (hx : a.eval x = .slice (some ⟨w.heap.size, 0, none⟩) 1 1)
    (hn : n ≤ 1000) (hbase : base ≤ w.heap.size)
    (h : ∀ v' w', w'.ownsRow base e 3 v' (n + 1) (xs ++ ec en) → (w.alloc (.cells #[.int .i64 en.lv, .int .i64 en.ov, .bool en.is] e)).grownBy w' v.ownBlock → K (a.put o.dst v') w') :
    if Region.wanted o (yielded ops a.tmps) = true then Oper.wp P o a (w.alloc (.cells #[.int .i64 en.lv, .int .i64 en.ov, .bool en.is] e)) K Q else E := by
  have hw : Region.wanted o (yielded ops a.tmps) = true := by simp [Region.wanted, hgd]
  rw [if_pos hw]
  have hown' := hown.alloc (.cells #[.int .i64 en.lv, .int .i64 en.ov, .bool en.is] e)
  refine wp_append_own _ s x t ho base e i z 3 24 ht hi hz hsize hby hzs (by decide) v n xs hs hown' ⟨w.heap.size, 0, none⟩ 1 1 (ec en) hx rfl ?_ ?_ (by unfold maxLen; omega) (by omega) (by simp; omega) (fun v' w' g1 g2 _ => h v' w' g1 g2)
  · intro j u hj
    have hadd : (⟨w.heap.size, 0, none⟩ : Addr).add j = ⟨w.heap.size, j, none⟩ := by unfold Addr.add; split <;> simp_all
    rw [hadd]
    unfold World.cell?
    rw [heap_alloc_last]
    show (#[.int .i64 en.lv, .int .i64 en.ov, .bool en.is] : Array Value)[j]? = some u
    rw [← hj]
    simp [ec]
  · intro u hu
    simp only [ec, List.mem_cons, List.not_mem_nil, or_false] at hu
    rcases hu with rfl | rfl | rfl <;> simp [Value.oneCell']
theorem wpList_append_ent {P : Program} (w : World) {ops : Array Oper} {rest : List Oper} {o : Oper} {a : Act} {Q : Exit → Act → World → Prop} (hgd : o.guard = none) (s x : Operand) (t : TypeId)
    (ho : o.op = .call { callee := .builtin .append, args := #[s, x], argTypes := #[t, t] })
    (base : Nat) (e : TypeId) (i : TypeInfo) (z : Value) (ht : P.underlying t = some (.slice e)) (hi : P.info? e = some i) (hz : i.zero = some z)
    (hsize : i.size = 3) (hby : i.bytes = 24) (hzs : z.cells.size = 3)
    (v : Value) (n : Nat) (xs : List Value) (hs : a.eval s = v) (en : Ex.Ent) (hown : w.ownsRow base e 3 v n xs)
    (g : Nat) (hg : g = w.heap.size) (hx : a.eval x = .slice (some ⟨g, 0, none⟩) 1 1)
    (hn : n ≤ 1000) (hbase : base ≤ w.heap.size)
    (h : ∀ v' w', w'.ownsRow base e 3 v' (n + 1) (xs ++ ec en) → (w.alloc (.cells #[.int .i64 en.lv, .int .i64 en.ov, .bool en.is] e)).grownBy w' v.ownBlock → wpList P ops Q rest (a.put o.dst v') w') :
    wpList P ops Q (o :: rest) a (w.alloc (.cells #[.int .i64 en.lv, .int .i64 en.ov, .bool en.is] e)) := by
  subst hg
  refine wpList_plain hgd fun K hK => ?_
  have h1 := step_append_ent (ops := ops) (E := False) (Q := Q) (K := K) w hgd s x t ho base e i z ht hi hz hsize hby hzs v n xs hs en hown hx hn hbase (fun v' w' g1 g2 => hK _ _ (h v' w' g1 g2))
  have hw : Region.wanted o (yielded ops a.tmps) = true := by simp [Region.wanted, hgd]
  rw [if_pos hw] at h1
  exact h1
theorem build_emb (l o : Int) (w : World) : (Instr.build 106 #[(0, .int .i64 l), (1, .int .i64 o)]).run Tryz.prog w = .ok (.agg #[.int .i64 l, .int .i64 o, .bool false]) w := run_build w 106 _ _ (by kernel_rfl)
theorem build_iso (l : Int) (w : World) : (Instr.build 106 #[(0, .int .i64 l), (2, .bool true)]).run Tryz.prog w = .ok (.agg #[.int .i64 l, .int .i64 0, .bool true]) w := run_build w 106 _ _ (by kernel_rfl)
theorem build_ent1 (x y : Int) (z : Bool) (w : World) : (Instr.buildSlice 107 1 #[(0, .agg #[.int .i64 x, .int .i64 y, .bool z])]).run Tryz.prog w = .ok (.slice (some ⟨w.heap.size, 0, none⟩) 1 1) (w.alloc (.cells #[.int .i64 x, .int .i64 y, .bool z] 106)) := by
  have hq := entInfo
  cases hi : Tryz.prog.info? 106 with
  | none => rw [hi] at hq; cases hq
  | some ie =>
    rw [hi] at hq
    simp only [Option.map_some, Option.some.injEq, Prod.mk.injEq] at hq
    refine run_buildSlice w 107 106 1 _ _ ie _ Tryz.underlying107 hi hq.1 (by rw [hq.2.1]; decide) (by rw [hq.2.1]; decide) ?_
    rw [hq.2.1]
    kernel_rfl
theorem below_push {B : Nat} {w w' : World} {g p : Nat} {o : Obj} {v : Value} (hB : B ≤ w.heap.size) (hg : (w.alloc o).grownBy w' (some g)) (hgB : B ≤ g) (hp : B ≤ p) : Below B w (w'.setCell ⟨p, 0, none⟩ v) :=
  (((Below.refl B w).alloc hB o).grown hg (by simp; omega) (fun j hj => by simp at hj; omega)).setCell (p := ⟨p, 0, none⟩) hp v
/-- The stack's first cell, held through a statement. -/
def Kc (p : Nat) (v : Value) (w : World) : Prop := w.cell? ⟨p, 0, none⟩ = some v ∧ w.frozen? ⟨p, 0, none⟩ = false
theorem Kc.alloc {p : Nat} {v : Value} {w : World} (h : Kc p v w) (o : Obj) : Kc p v (w.alloc o) := by
  have hlt : p < w.heap.size := World.block_lt_of_cell? w _ h.1
  have hb := (Below.alloc (Below.refl w.heap.size w) (Nat.le_refl _) o).block p hlt
  exact ⟨(World.cell?_of_block (a := ⟨p, 0, none⟩) hb).trans h.1, (World.frozen?_of_block (a := ⟨p, 0, none⟩) hb).trans h.2⟩
theorem embed_any {B : Nat} {w : World} {p : Nat} {S : Ex.St} {g cap : Nat} (h : SA B w p S g cap) {b : Int} {k : Nat} (hok : Ex.Ok b S k) (hb : 0 ≤ b) (hb1 : b ≤ 1) (hk : k ≤ 17592186044416) (x : Int) :
    Calls Tryz.prog 52 #[.pointer (some ⟨p, 0, none⟩), .int .i64 x] w fun e w' => e = .returned (.tuple #[]) ∧ (∃ g' cap', SA B w' p (Ex.emb S x) g' cap') ∧ Below B w w' := by
  have hlo := hok.ch.lo
  have hhi := hok.ch.hi (by omega)
  have hlen := hok.ch.len
  have HN := hide (next_any h hok.ch.pos (by omega) hhi x)
  have HV := hide (fun w' => overrideOf_any x w')
  have hnl := Ex.nl_gt (Ex.hd S.st).lv (Ex.odd x)
  have hkoi := hok.oi
  have hkoe := hok.oe
  cases hc : Ex.can S (Ex.odd x) with
  | true =>
    have e1 : Ex.emb S x = ⟨⟨Ex.nl (Ex.hd S.st).lv (Ex.odd x), Ex.ovr x, false⟩ :: S.st, S.oi, S.oe, S.va⟩ := by unfold Ex.emb; rw [if_pos hc]
    rw [e1]
    rw [hc] at HN
    obtain ⟨ii, hii, hy0, hy1, hy2⟩ := info_parts entInfo
    have HII := hide hii
    have HY0 := hide hy0
    have HY1 := hide hy1
    have HY2 := hide hy2
    have hbd := build_emb
    have hbo := build_ent1
    have HA := hide h
    generalize hl : Ex.nl (Ex.hd S.st).lv (Ex.odd x) = l at *
    generalize Ex.ovr x = ov at *
    have hn1 : S.st.length ≤ 126 := by omega
    clear e1 hc hii hy0 hy1 hy2 h hl hok hlo hhi hlen hkoi hkoe
    go_enter Tryz.func52, Tryz.ntmps52
    go_wp2_with (go_at_call 63; refine HN.out.mono ?_; rintro e w1 ⟨rfl, hb1⟩)
    have HS := hide ((HA.out.below hb1).drew)
    have HB := hide (show Below B w w1.drew from (hb1.mono HA.out.size).drew)
    have c0 := HS.out.c0
    have f0 := HS.out.fz 0
    have np : ∀ o : Obj, (w1.alloc o).cell? ⟨p, 0, none⟩ = some (.slice (some ⟨g, 0, none⟩) S.st.length cap) := fun o => (Kc.alloc (w := w1) ⟨(HA.out.below hb1).c0, (HA.out.below hb1).fz 0⟩ o).1
    clear hb1 HN
    go_region_law (first
      | (go_simp; go_at_call 64; refine (HV.out _).mono ?_; rintro e w2 ⟨rfl, rfl⟩; go_simp)
      | (refine step_append_ent w1.drew rfl (.tmp 17) (.tmp 22) 107 rfl B 106 ii _ Tryz.underlying107 HII.out HY0.out HY1.out HY2.out rfl _ S.st.length _ rfl ⟨l, ov, false⟩ HS.out.own rfl (by omega) HS.out.size ?_; intro v' w' ho' hg'; obtain ⟨cp, fp⟩ := HS.out.grown hg'; have hb' := below_push (v := v') (p := p) HS.out.size hg' HS.out.lt.2.2 HS.out.ge; obtain ⟨g', cap', rfl, hsa⟩ := HS.out.push (e := ⟨l, ov, false⟩) ho' hg'))
    all_goals
      have HSA := hide hsa
      have HBB := hide (HB.out.trans hb')
      clear hsa hb' ho' hg' cp fp np c0 f0
      go_wp2
      go_end0
      exact ⟨rfl, ⟨g', cap', HSA.out⟩, HBB.out⟩
  | false =>
    rw [hc] at HN
    have hcf : ¬ Ex.can S (Ex.odd x) = true := by rw [hc]; decide
    by_cases h0 : S.oi = 0
    · have e1 : Ex.emb S x = ⟨S.st, S.oi, S.oe + 1, S.va⟩ := by unfold Ex.emb; rw [if_neg hcf, if_pos h0]
      rw [e1]
      have HA := hide h
      generalize Ex.nl (Ex.hd S.st).lv (Ex.odd x) = l at *
      clear e1 hc hcf h hlo hhi hlen hok
      go_enter Tryz.func52, Tryz.ntmps52
      go_wp2_with fail
      refine HN.out.mono ?_
      rintro e w1 ⟨rfl, hb1⟩
      have hs := HA.out.below hb1
      have HB := hide (hb1.mono HA.out.size)
      have c1 := hs.c1
      rw [h0] at c1
      have c2 := hs.c2
      have f2 := hs.fz 2
      have HS := hide (hs.setOe (z := (S.oe : Int) + 1) (k := S.oe + 1) (by omega))
      have hge := hs.ge
      clear hs hb1 HN HA
      go_wp2
      go_end0
      exact ⟨rfl, ⟨g, cap, HS.out⟩, HB.out.setCell (p := ⟨p, 2, none⟩) hge _⟩
    · have e1 : Ex.emb S x = S := by unfold Ex.emb; rw [if_neg hcf, if_neg h0]
      rw [e1]
      have HA := hide h
      generalize Ex.nl (Ex.hd S.st).lv (Ex.odd x) = l at *
      clear e1 hc hcf h hlo hhi hlen hok
      go_enter Tryz.func52, Tryz.ntmps52
      go_wp2_with fail
      refine HN.out.mono ?_
      rintro e w1 ⟨rfl, hb1⟩
      have HS := hide (HA.out.below hb1)
      have HB := hide (hb1.mono HA.out.size)
      have c1 := HS.out.c1
      generalize S.oi = oi at *
      have e0 : ((oi : Int) == 0) = false := beq_false_of_ne (by omega)
      clear hb1 HN HA
      go_wp2
      go_end0
      exact ⟨rfl, ⟨g, cap, HS.out⟩, HB.out⟩
theorem isolate_any {B : Nat} {w : World} {p : Nat} {S : Ex.St} {g cap : Nat} (h : SA B w p S g cap) {b : Int} {k : Nat} (hok : Ex.Ok b S k) (hb : 0 ≤ b) (hb1 : b ≤ 1) (hk : k ≤ 17592186044416) (x : Int) :
    Calls Tryz.prog 56 #[.pointer (some ⟨p, 0, none⟩), .int .i64 x] w fun e w' => e = .returned (.tuple #[]) ∧ (∃ g' cap', SA B w' p (Ex.iso S (Ex.odd x)) g' cap') ∧ Below B w w' := by
  have hlo := hok.ch.lo
  have hhi := hok.ch.hi (by omega)
  have hlen := hok.ch.len
  have HN := hide (next_any h hok.ch.pos (by omega) hhi x)
  have hkoi := hok.oi
  have hkva : S.va ≤ 126 := by have h1 := hok.va; have h2 := Ex.cn_le S.st; omega
  have hn1 : S.st.length ≤ 126 := by omega
  generalize Ex.odd x = o at *
  cases hc : Ex.can S o with
  | true =>
    have e1 : Ex.iso S o = ⟨⟨Ex.nl (Ex.hd S.st).lv o, 0, true⟩ :: S.st, S.oi, S.oe, S.va + 1⟩ := by unfold Ex.iso; rw [if_pos hc]
    rw [e1]
    rw [hc] at HN
    obtain ⟨ii, hii, hy0, hy1, hy2⟩ := info_parts entInfo
    have HII := hide hii
    have HY0 := hide hy0
    have HY1 := hide hy1
    have HY2 := hide hy2
    have hbd := build_iso
    have hbo := build_ent1
    have HA := hide h
    generalize Ex.nl (Ex.hd S.st).lv o = l at *
    clear e1 hc hii hy0 hy1 hy2 h hlo hhi hlen hok
    go_enter Tryz.func56, Tryz.ntmps56
    go_wp2_with fail
    refine HN.out.mono ?_
    rintro e w1 ⟨rfl, hb1⟩
    have hs := HA.out.below hb1
    have c3 := hs.c3
    have f3 := hs.fz 3
    have HS := hide (hs.setVa (z := (S.va : Int) + 1) (k := S.va + 1) (by omega))
    have HB := hide ((hb1.mono HA.out.size).setCell (p := ⟨p, 3, none⟩) HA.out.ge (.int .i64 ((S.va : Int) + 1)))
    obtain ⟨W, hW⟩ : ∃ W, w1.setCell ⟨p, 3, none⟩ (.int .i64 ((S.va : Int) + 1)) = W := ⟨_, rfl⟩
    rw [hW] at HS HB
    have c0 := HS.out.c0
    have f0 := HS.out.fz 0
    clear hs hb1 HN HA
    go_wp2_with (at_builtin; refine wpList_append_ent W rfl (.tmp 32) (.tmp 35) 107 rfl B 106 ii _ Tryz.underlying107 HII.out HY0.out HY1.out HY2.out rfl _ S.st.length _ rfl ⟨l, 0, true⟩ HS.out.own _ rfl rfl (by omega) HS.out.size ?_; intro v' w' ho' hg'; obtain ⟨cp, fp⟩ := HS.out.grown hg'; have hb' := below_push (v := v') (p := p) HS.out.size hg' HS.out.lt.2.2 HS.out.ge; obtain ⟨g', cap', rfl, hsa⟩ := HS.out.push (e := ⟨l, 0, true⟩) ho' hg')
    go_end0
    exact ⟨rfl, ⟨g', cap', hsa⟩, HB.out.trans hb'⟩
  | false =>
    rw [hc] at HN
    have e1 : Ex.iso S o = ⟨S.st, S.oi + 1, S.oe, S.va⟩ := by unfold Ex.iso; rw [if_neg (by rw [hc]; decide)]
    rw [e1]
    have HA := hide h
    generalize Ex.nl (Ex.hd S.st).lv o = l at *
    clear e1 hc h hlo hhi hlen hok
    go_enter Tryz.func56, Tryz.ntmps56
    go_wp2_with fail
    refine HN.out.mono ?_
    rintro e w1 ⟨rfl, hb1⟩
    have hs := HA.out.below hb1
    have HB := hide (hb1.mono HA.out.size)
    have c1 := hs.c1
    have f1 := hs.fz 1
    have HS := hide (hs.setOi (z := (S.oi : Int) + 1) (k := S.oi + 1) (by omega))
    have hge := hs.ge
    clear hs hb1 HN HA
    go_wp2
    refine bodyPost_ret (results_none rfl _ _ _) rfl ?_
    exact ⟨rfl, ⟨g, cap, HS.out⟩, HB.out.setCell (p := ⟨p, 1, none⟩) hge _⟩
/-- What an FSI is taken as: where no next level can be, either does the same. -/
theorem iso_taken {S : Ex.St} {r : List Int} {x : Int} (h : (S.oi == 0 && S.oe == 0) = false ∨ 125 ≤ (Ex.hd S.st).lv) (o o' : Bool) : Ex.iso S o = Ex.iso S o' := by
  have hf : ∀ q, Ex.can S q = false := by
    intro q
    rcases h with h | h
    · cases hc : Ex.can S q with
      | false => rfl
      | true =>
        obtain ⟨_, h2, h3⟩ := Ex.can_true hc
        simp [h2, h3] at h
    · exact Ex.can_lv (by have := Ex.nl_gt (Ex.hd S.st).lv q; omega)
  unfold Ex.iso
  rw [hf o, hf o']
  rfl
theorem takenAs_any {B : Nat} {w : World} {p : Nat} {S : Ex.St} {g cap : Nat} (h : SA B w p S g cap) (hpos : 0 < S.st.length) (ao : Option Addr) (n cap0 : Nat) (c : List Int) (hr : Row .i64 w ao n cap0 c) (hn : n * 8 ≤ 140737488351232) (i : Nat) (hi : i < n) :
    Calls Tryz.prog 57 #[.pointer (some ⟨p, 0, none⟩), .slice ao n cap0, .int .i64 ((i + 1 : Nat) : Int), .int .i64 (Iso.partner c i : Int)] w fun e w' => (∃ y, e = .returned (.int .i64 y) ∧ Ex.iso S (Ex.odd y) = Ex.iso S (Ex.fs 0 (c.drop (i + 1)) == 1)) ∧ Below w.heap.size w w' := by
  have HO := hide (overflows_any h)
  have HL := hide (last_any h hpos)
  have hp1 := Iso.partner_gt c i
  have hp2 := Iso.partner_le c i (by rw [hr.len]; exact hi)
  rw [hr.len] at hp2
  have HBS := hide (fun w' (hb : Below w.heap.size w w') => base_ok ao n cap0 c (i + 1) (Iso.partner c i) w' (hr.below hb) hn (by omega) hp2)
  rw [Ex.base_fs] at HBS
  have hfl := field_lv
  have HT := hide (fun h => iso_taken (S := S) (r := []) (x := 0) h)
  generalize Ex.fs 0 (c.drop (i + 1)) = F at *
  generalize Iso.partner c i = q at *
  have hT : ∀ o, Ex.iso S o = Ex.iso S o := fun _ => rfl
  cases ho : (S.oi == 0 && S.oe == 0) with
  | false =>
    rw [ho] at HO
    have HE := hide (HT.out (.inl ho) (Ex.odd 20) (F == 1))
    clear ho h hr hn HT HBS hT HL
    go_enter Tryz.func57, Tryz.ntmps57
    go_wp2_with (go_at_call 68; refine HO.out.mono ?_; rintro e w2 ⟨rfl, rfl⟩)
    go_ret
    exact ⟨⟨20, rfl, HE.out⟩, Below.refl _ _⟩
  | true =>
    rw [ho] at HO
    by_cases hl : 125 ≤ (Ex.hd S.st).lv
    · have HE := hide (HT.out (.inr hl) (Ex.odd 20) (F == 1))
      clear ho h hr hn HT HBS hT
      generalize (Ex.hd S.st).lv = l at *
      go_enter Tryz.func57, Tryz.ntmps57
      go_wp2_with (first
        | (go_at_call 68; refine HO.out.mono ?_; rintro e w2 ⟨rfl, rfl⟩)
        | (go_at_call 65; refine HL.out.mono ?_; rintro e w1 ⟨rfl, hb1⟩))
      go_ret
      exact ⟨⟨20, rfl, HE.out⟩, hb1⟩
    · clear ho h hr hn HT hT
      generalize (Ex.hd S.st).lv = l at *
      by_cases hF : F = 1
      · subst hF
        go_enter Tryz.func57, Tryz.ntmps57
        go_wp2_with (first
          | (go_at_call 68; refine HO.out.mono ?_; rintro e w2 ⟨rfl, rfl⟩)
          | (go_at_call 65; refine HL.out.mono ?_; rintro e w1 ⟨rfl, hb1⟩)
          | (go_at_call 30; refine (HBS.out _ hb1).mono ?_; rintro e w2 ⟨rfl, rfl⟩))
        go_ret
        exact ⟨⟨21, rfl, rfl⟩, hb1⟩
      · have hF2 : (F == 1) = false := beq_false_of_ne hF
        rw [hF2]
        go_enter Tryz.func57, Tryz.ntmps57
        go_wp2_with (first
          | (go_at_call 68; refine HO.out.mono ?_; rintro e w2 ⟨rfl, rfl⟩)
          | (go_at_call 65; refine HL.out.mono ?_; rintro e w1 ⟨rfl, hb1⟩)
          | (go_at_call 30; refine (HBS.out _ hb1).mono ?_; rintro e w2 ⟨rfl, rfl⟩))
        go_ret
        exact ⟨⟨20, rfl, rfl⟩, hb1⟩
end Go.Proofs.YtmdmehopefgndaaGreatDoor

/- The ends: endIsolate, endEmbedding. -/
namespace Go.Proofs.YtmdmehopefgndaaGreatDoor
open Go.RowKit
set_option linter.unusedVariables false
set_option maxHeartbeats 1000000
set_option maxRecDepth 100000
theorem pi_head {l : List Ex.Ent} (h : 0 < l.length) : ((Ex.hd l).is = true ∧ Ex.pi l = l.tail) ∨ ((Ex.hd l).is = false ∧ Ex.pi l = Ex.pi l.tail ∧ Ex.cn l.tail = Ex.cn l) := by
  cases l with
  | nil => simp at h
  | cons e r =>
    cases he : e.is with
    | true => left; simp [Ex.hd, Ex.pi, he]
    | false => right; simp [Ex.hd, Ex.pi, Ex.cn, he]
theorem cn_pos {l : List Ex.Ent} (h : 0 < Ex.cn l) : 0 < l.length := by
  have := Ex.cn_le l; omega
theorem endIsolate_any {B : Nat} {w : World} {p : Nat} {S : Ex.St} {g cap : Nat} (h : SA B w p S g cap) {b : Int} {k : Nat} (hok : Ex.Ok b S k) (hb0 : 0 ≤ b) (hb : b ≤ 1) (hk : k ≤ 17592186044416) :
    Calls Tryz.prog 54 #[.pointer (some ⟨p, 0, none⟩)] w fun e w' => e = .returned (.tuple #[]) ∧ (∃ g' cap', SA B w' p (Ex.pdi S) g' cap') ∧ Below B w w' := by
  have hkoi := hok.oi
  have hkva : S.va ≤ 126 := by have h1 := hok.va; have h2 := Ex.cn_le S.st; have h3 := hok.ch.len; have h4 := hok.ch.hi (by omega); have h5 := hok.ch.lo; omega
  by_cases h1 : 0 < S.oi
  · have e1 : Ex.pdi S = ⟨S.st, S.oi - 1, S.oe, S.va⟩ := by unfold Ex.pdi; rw [if_pos h1]
    rw [e1]
    have h1' : (0 : Int) < (S.oi : Int) := by omega
    have c1 := h.c1
    have f1 := h.fz 1
    have HS := hide (h.setOi (z := (S.oi : Int) - 1) (k := S.oi - 1) (by omega))
    have hge := h.ge
    clear h hok e1
    go_enter Tryz.func54, Tryz.ntmps54
    go_wp2
    refine bodyPost_ret (results_none rfl _ _ _) rfl ?_
    exact ⟨rfl, ⟨g, cap, HS.out⟩, (Below.refl B w).setCell (p := ⟨p, 1, none⟩) hge _⟩
  · have h1' : ¬ (0 : Int) < (S.oi : Int) := by omega
    have c1 := h.c1
    have c3 := h.c3
    by_cases h2 : S.va = 0
    · have e1 : Ex.pdi S = S := by unfold Ex.pdi; rw [if_neg h1, if_pos h2]
      rw [e1]
      have HS := hide h
      rw [h2] at c3
      clear h hok e1
      go_enter Tryz.func54, Tryz.ntmps54
      go_wp2
      refine bodyPost_ret (results_none rfl _ _ _) rfl ?_
      exact ⟨rfl, ⟨g, cap, HS.out⟩, Below.refl B w⟩
    · have e1 : Ex.pdi S = ⟨Ex.pi S.st, S.oi, 0, S.va - 1⟩ := by unfold Ex.pdi; rw [if_neg h1, if_neg h2]
      rw [e1]
      have e3 : ((S.va : Int) == 0) = false := beq_false_of_ne (by omega)
      have f2 := h.fz 2
      have c2 := h.c2
      have HS := hide (h.setOe (z := 0) (k := 0) rfl)
      have HB := hide ((Below.refl B w).setCell (p := ⟨p, 2, none⟩) h.ge (.int .i64 0))
      have hcn : 0 < Ex.cn S.st := by have := hok.va; omega
      have HC := hide hcn
      have hfi := field_is
      clear h hok e1 hcn
      obtain ⟨R, hR⟩ : ∃ R, Ex.pi S.st = R := ⟨_, rfl⟩
      rw [hR]
      have HR := hide hR
      clear hR
      go_enter Tryz.func54, Tryz.ntmps54
      go_wp2_with (go_at_call 65; fail)
      go_loopg [] S.st.length (fun k wr => ∃ l : List Ex.Ent, l.length = k ∧ Hid (Ex.pi l = R) ∧ Hid (0 < Ex.cn l) ∧ Hid (SA B wr p ⟨l, S.oi, 0, S.va⟩ g cap) ∧ Hid (Below B w wr))
      case atStart => exact ⟨S.st, rfl, HR, HC, HS, HB⟩
      case round =>
        obtain ⟨l, hl, hR, hC, hS, hB⟩ := hrel
        have hpos : 0 < l.length := cn_pos hC.out
        have HL := hide (last_any hS.out hpos)
        rcases pi_head hpos with ⟨hi, hp⟩ | ⟨hi, hp, hc⟩
        · rw [hi] at HL
          rw [hR.out] at hp
          have HP := hide hp
          generalize (Ex.hd l).lv = lv at *
          generalize (Ex.hd l).ov = ov at *
          clear hp hi
          go_wp2_with fail
          refine HL.out.mono ?_
          rintro e w1 ⟨rfl, hb1⟩
          have hs1 := hS.out.below hb1
          have HD := hide (drop_any hs1 hpos)
          have HB1 := hide (hB.out.trans (hb1.mono hS.out.size))
          clear hs1 hb1 HL
          go_wp2_with fail
          refine HD.out.mono ?_
          rintro e w2 ⟨rfl, hs2, hb2⟩
          have c3' := hs2.c3
          have f3' := hs2.fz 3
          have HF := hide (hs2.setVa (z := (S.va : Int) - 1) (k := S.va - 1) (by omega))
          have HBF := hide ((HB1.out.trans hb2).setCell (p := ⟨p, 3, none⟩) hs2.ge (.int .i64 ((S.va : Int) - 1)))
          clear hs2 hb2 HD HB1
          go_wp2
          go_end0
          exact ⟨rfl, ⟨g, cap, by rw [HP.out]; exact HF.out⟩, HBF.out⟩
        · rw [hi] at HL
          rw [hR.out] at hp
          have HP := hide hp.symm
          have HCN := hide (show 0 < Ex.cn l.tail from by rw [hc]; exact hC.out)
          generalize (Ex.hd l).lv = lv at *
          generalize (Ex.hd l).ov = ov at *
          clear hp hi hc
          go_wp2_with fail
          refine HL.out.mono ?_
          rintro e w1 ⟨rfl, hb1⟩
          have hs1 := hS.out.below hb1
          have HD := hide (drop_any hs1 hpos)
          have HB1 := hide (hB.out.trans (hb1.mono hS.out.size))
          clear hs1 hb1 HL
          go_wp2_with fail
          refine HD.out.mono ?_
          rintro e w2 ⟨rfl, hs2, hb2⟩
          have HF := hide hs2
          have HBF := hide (HB1.out.trans hb2)
          clear hs2 hb2 HD HB1
          go_wp2
          go_roundg l.tail.length
          case measure => rw [List.length_tail]; omega
          case rel => exact ⟨l.tail, rfl, HP, HCN, HF, HBF⟩
theorem ent_cells : Tryz.prog.cellsOf 106 = 3 ∧ Tryz.prog.cellsOf 3 = 1 ∧ Tryz.prog.cellsOf 4 = 1 := ⟨by kernel_rfl, by kernel_rfl, by kernel_rfl⟩
theorem ent_keys (x y : Int) (z : Bool) (hx : (Lit.int .i64 x).wf = true) (hy : (Lit.int .i64 y).wf = true) :
    Tryz.prog.keyLits 3 106 [.int .i64 x, .int .i64 y, .bool z] = some [.int .i64 x, .int .i64 y, .bool z] ∧ (Value.agg #[.int .i64 x, .int .i64 y, .bool z]).formed Tryz.prog 106 = true := by
  constructor
  · unfold Program.keyLits
    rw [Tryz.underlying106]
    simp [ent_cells.1, ent_cells.2.1, ent_cells.2.2, Program.keyLits, Tryz.underlying3, Tryz.underlying4, hx, hy]
  · unfold Value.formed
    rw [Tryz.underlying106]
    simp [ent_cells.1]
theorem ent_eq (x y x' y' : Int) (z z' : Bool) (hx : (Lit.int .i64 x).wf = true) (hy : (Lit.int .i64 y).wf = true) (hx' : (Lit.int .i64 x').wf = true) (hy' : (Lit.int .i64 y').wf = true) (w : World) :
    (Op.equalIn 10000 106 (.agg #[.int .i64 x, .int .i64 y, .bool z]) (.agg #[.int .i64 x', .int .i64 y', .bool z'])).run Tryz.prog w = .ok (decide (x = x' ∧ y = y' ∧ z = z')) w := by
  obtain ⟨k1, f1⟩ := ent_keys x y z hx hy
  obtain ⟨k2, f2⟩ := ent_keys x' y' z' hx' hy'
  obtain ⟨r, hr, hiff⟩ := run_equalIn_deep (P := Tryz.prog) 9997 3 106 (by kernel_rfl) w 3 3 _ _ _ _ f1 f2 k1 k2
  have h2 : (r = true ↔ (x = x' ∧ y = y' ∧ z = z')) := hiff.trans (by simp)
  have h3 : r = decide (x = x' ∧ y = y' ∧ z = z') := by
    by_cases h : x = x' ∧ y = y' ∧ z = z'
    · rw [decide_eq_true h]; exact h2.2 h
    · rw [decide_eq_false h]
      cases hr' : r with
      | false => rfl
      | true => exact absurd (h2.1 hr') h
  rw [← h3]
  exact hr
theorem endEmbedding_any {B : Nat} {w : World} {p : Nat} {S : Ex.St} {g cap : Nat} (h : SA B w p S g cap) {b : Int} {k : Nat} (hok : Ex.Ok b S k) (hb0 : 0 ≤ b) (hb : b ≤ 1) (hk : k ≤ 17592186044416) :
    Calls Tryz.prog 53 #[.pointer (some ⟨p, 0, none⟩)] w fun e w' => e = .returned (.tuple #[]) ∧ (∃ g' cap', SA B w' p (Ex.pdf S) g' cap') ∧ Below B w w' := by
  have hkoi := hok.oi
  have hkoe := hok.oe
  have c1 := h.c1
  by_cases h1 : 0 < S.oi
  · have e1 : Ex.pdf S = S := by unfold Ex.pdf; rw [if_pos h1]
    rw [e1]
    have h1' : (0 : Int) < (S.oi : Int) := by omega
    have HS := hide h
    clear h hok e1
    go_enter Tryz.func53, Tryz.ntmps53
    go_wp2
    refine bodyPost_ret (results_none rfl _ _ _) rfl ?_
    exact ⟨rfl, ⟨g, cap, HS.out⟩, Below.refl B w⟩
  · have h1' : ¬ (0 : Int) < (S.oi : Int) := by omega
    have c2 := h.c2
    by_cases h2 : 0 < S.oe
    · have e1 : Ex.pdf S = ⟨S.st, S.oi, S.oe - 1, S.va⟩ := by unfold Ex.pdf; rw [if_neg h1, if_pos h2]
      rw [e1]
      have h2' : (0 : Int) < (S.oe : Int) := by omega
      have f2 := h.fz 2
      have HS := hide (h.setOe (z := (S.oe : Int) - 1) (k := S.oe - 1) (by omega))
      have hge := h.ge
      clear h hok e1
      go_enter Tryz.func53, Tryz.ntmps53
      go_wp2
      refine bodyPost_ret (results_none rfl _ _ _) rfl ?_
      exact ⟨rfl, ⟨g, cap, HS.out⟩, (Below.refl B w).setCell (p := ⟨p, 2, none⟩) hge _⟩
    · have h2' : ¬ (0 : Int) < (S.oe : Int) := by omega
      have e0 : Ex.pdf S = if (Ex.hd S.st).is = false ∧ 1 < S.st.length then ⟨S.st.tail, S.oi, S.oe, S.va⟩ else S := by unfold Ex.pdf; rw [if_neg h1, if_neg h2]
      have HA := hide h
      have HL := hide (last_any h hok.ch.pos)
      have hov := hok.ch.ov
      have hlo := hok.ch.lo
      have hhi := hok.ch.hi (by omega)
      have hpos := hok.ch.pos
      have HCH := hide hok.ch
      have heq := ent_eq (Ex.hd S.st).lv (Ex.hd S.st).ov b 0 (Ex.hd S.st).is false (WalkArith.wf_i64 (by omega)) (WalkArith.wf_i64 (by omega)) (WalkArith.wf_i64 (by omega)) (WalkArith.wf_i64 (by omega))
      cases his : (Ex.hd S.st).is with
      | true =>
        have e1 : Ex.pdf S = S := by rw [e0, if_neg (fun h => by rw [his] at h; cases h.1)]
        rw [e1]
        rw [his] at HL heq
        generalize (Ex.hd S.st).lv = lv at *
        generalize (Ex.hd S.st).ov = ov at *
        clear e0 e1 h hok his heq
        go_enter Tryz.func53, Tryz.ntmps53
        go_wp2_with fail
        refine HL.out.mono ?_
        rintro e w1 ⟨rfl, hb1⟩
        have HS := hide (HA.out.below hb1)
        have HB := hide (hb1.mono HA.out.size)
        clear hb1 HL HA
        go_wp2_with fail
        go_quiet (fail)
        go_wp2
        go_end0
        have hs2 := HS.out.below ((Below.alloc (Below.refl _ w1) (Nat.le_refl _) (.cells #[.int .i64 lv, .int .i64 ov, .bool true] 106)))
        exact ⟨rfl, ⟨g, cap, hs2.below (below_drewN _ _)⟩, (Below.alloc HB.out HS.out.size _).trans ((below_drewN _ nq).mono (by simp; have := HS.out.size; omega))⟩
      | false =>
        rw [his] at HL heq
        by_cases hlen : 1 < S.st.length
        · have e1 : Ex.pdf S = ⟨S.st.tail, S.oi, S.oe, S.va⟩ := by rw [e0, if_pos ⟨his, hlen⟩]
          rw [e1]
          have hm := (hok.ch.more hlen).1
          have hdec : decide ((Ex.hd S.st).lv = b ∧ (Ex.hd S.st).ov = 0 ∧ false = false) = false := decide_eq_false (fun h => by omega)
          rw [hdec] at heq
          generalize (Ex.hd S.st).lv = lv at *
          generalize (Ex.hd S.st).ov = ov at *
          clear e0 e1 h hok his hdec
          go_enter Tryz.func53, Tryz.ntmps53
          go_wp2_with fail
          refine HL.out.mono ?_
          rintro e w1 ⟨rfl, hb1⟩
          have HS := hide (fun o : Obj => (HA.out.below hb1).below ((Below.alloc (Below.refl _ w1) (Nat.le_refl _) o)))
          have HB := hide (fun o : Obj => Below.alloc (hb1.mono HA.out.size) (HA.out.below hb1).size o)
          have HD := hide (fun (o : Obj) (nq : Nat) => drop_any ((HS.out o).below (below_drewN _ nq)) hpos)
          have c0 := fun o => (HS.out o).c0
          have t0 := fun o => ((HS.out o).bot HCH.out).1
          have t1 := fun o => ((HS.out o).bot HCH.out).2.1
          have t2 := fun o => ((HS.out o).bot HCH.out).2.2
          have hpi : (0 : Int) < (S.st.length : Int) := by omega
          clear hb1 HL HA
          go_wp2_with fail
          go_quiet (fail)
          go_wp2_with (go_at_call 66; refine (HD.out _ _).mono ?_; rintro e w3 ⟨rfl, hs3, hb3⟩)
          go_end0
          exact ⟨rfl, ⟨g, cap, hs3⟩, ((HB.out _).trans ((below_drewN _ _).mono (HS.out _).size)).trans hb3⟩
        · have e1 : Ex.pdf S = S := by rw [e0, if_neg (fun h => hlen h.2)]
          rw [e1]
          have hone := hok.ch.only hlen
          have hdec : decide ((Ex.hd S.st).lv = b ∧ (Ex.hd S.st).ov = 0 ∧ false = false) = true := decide_eq_true (by rw [hone]; exact ⟨rfl, rfl, rfl⟩)
          rw [hdec] at heq
          generalize (Ex.hd S.st).lv = lv at *
          generalize (Ex.hd S.st).ov = ov at *
          clear e0 e1 h hok his hdec hone hlen
          go_enter Tryz.func53, Tryz.ntmps53
          go_wp2_with fail
          refine HL.out.mono ?_
          rintro e w1 ⟨rfl, hb1⟩
          have HS := hide (fun o : Obj => (HA.out.below hb1).below ((Below.alloc (Below.refl _ w1) (Nat.le_refl _) o)))
          have HB := hide (fun o : Obj => Below.alloc (hb1.mono HA.out.size) (HA.out.below hb1).size o)
          have c0 := fun o => (HS.out o).c0
          have t0 := fun o => ((HS.out o).bot HCH.out).1
          have t1 := fun o => ((HS.out o).bot HCH.out).2.1
          have t2 := fun o => ((HS.out o).bot HCH.out).2.2
          have hpi : (0 : Int) < (S.st.length : Int) := by omega
          clear hb1 HL HA
          go_wp2_with fail
          go_quiet (fail)
          go_wp2
          go_end0
          exact ⟨rfl, ⟨g, cap, (HS.out _).below (below_drewN _ _)⟩, (HB.out _).trans ((below_drewN _ _).mono (HS.out _).size)⟩
end Go.Proofs.YtmdmehopefgndaaGreatDoor
