/- One call of both disks. -/
import Derived.Test.YthhfgcpflclflaaAl17
import Derived.Test.YthhfgcpflclflaaAc17
import Derived.Test.YthhfgcpflclflaaInts
namespace Go.Proofs.Ythhfgcpflclflaa
open Go.RowKit
set_option linter.unusedVariables false
set_option maxHeartbeats 2000000
set_option maxRecDepth 100000
theorem infoU8x : (Try.prog.info? 5).map (fun i => (i.zero, i.size, i.bytes)) = some (some (.int .u8 0), 1, 1) := by kernel_rfl
theorem infoI64x : (Try.prog.info? 3).map (fun i => (i.zero, i.size, i.bytes)) = some (some (.int .i64 0), 1, 8) := by kernel_rfl
theorem PR.make {B E : Nat} {w : World} {g r : Nat} {d e : Dk.Ds} (h1 : OD (fun x => B ≤ x ∧ x < E) w g d) (h2 : RO (fun x => E ≤ x) w r e) (hB : B ≤ E) (hw : B ≤ w.heap.size) : PR (fun x => B ≤ x) w g r d e :=
  ⟨_, _, h1, h2, fun x _ q1 q2 => by omega, fun x _ q => q.1, fun x _ q => by omega, fun x q => by omega⟩
theorem row_owns17 {k : IntKind} {w : World} {base e n c : Nat} {ao : Option Addr} {zs : List Int} (h : w.ownsRow base e 1 (.slice ao n c) n (zs.map (Value.int k))) : Row k w ao n c zs := by
  obtain ⟨a2, c2, e1, hr⟩ := row_of_owns h
  simp only [Value.slice.injEq] at e1
  obtain ⟨rfl, _, rfl⟩ := e1
  exact hr
/-- The call's own copy of what it is handed. -/
def bx17 (x : A17) : Obj := .cells #[.int .i64 x.kd, .int .i64 x.n, .int .i64 x.at', .slice x.ab x.nb x.cb, .slice x.ak x.nk x.ck] 36
/-- What stands behind the copy of the bytes. -/
structure OW17 (B : Nat) (w : World) (g r : Nat) (d : Dk.Ds) (x : A17) (Q : Nat → Prop) (ao : Option Addr) (co : Nat) (w2 : World) : Prop where
  low : ∀ y, Q y → B ≤ y
  out : ∀ y, w.heap.size ≤ y → y < w2.heap.size → ¬ Q y
  both : PR Q w2 g r d d
  box : ∀ j v, (#[.int .i64 x.kd, .int .i64 x.n, .int .i64 x.at', .slice x.ab x.nb x.cb, .slice x.ak x.nk x.ck] : Array Value)[j]? = some v → w2.cell? ⟨w.heap.size, j, none⟩ = some v
  big : w.heap.size < w2.heap.size
  own : w2.ownsRow (w.heap.size + 1) 5 1 (.slice ao x.nb co) x.nb (x.bs.map (Value.int .u8))
  bel : KO w w2
section
variable {B : Nat} {w w2 w' : World} {g r : Nat} {d : Dk.Ds} {x : A17} {Q : Nat → Prop} {ao : Option Addr} {co : Nat}
theorem OW17.cell (h : OW17 B w g r d x Q ao co w2) (hm : Mod Q w2 w') (j : Nat) (v : Value) (hv : (#[.int .i64 x.kd, .int .i64 x.n, .int .i64 x.at', .slice x.ab x.nb x.cb, .slice x.ak x.nk x.ck] : Array Value)[j]? = some v) : w'.cell? ⟨w.heap.size, j, none⟩ = some v :=
  hm.cell (h.out _ (Nat.le_refl _) h.big) (h.box j v hv)
theorem OW17.owns (h : OW17 B w g r d x Q ao co w2) (hm : Mod Q w2 w') : w'.ownsRow (w.heap.size + 1) 5 1 (.slice ao x.nb co) x.nb (x.bs.map (Value.int .u8)) :=
  hm.owns h.own fun y hy => h.out y (by have := (h.own.lt y hy).1; omega) (h.own.lt y hy).2
theorem OW17.below (h : OW17 B w g r d x Q ao co w2) (hB : B ≤ w.heap.size) (hm : Mod Q w2 w') : Below B w w' :=
  (Below.mono h.bel hB).trans (hm.below (Nat.le_trans hB h.bel.size) h.low)
theorem ow17_of {B : Nat} {w w1 w2 : World} {g r : Nat} {d : Dk.Ds} {x : A17} {v2 : Value} (h : PR (fun y => B ≤ y) w g r d d) (hk1 : KO w (w.alloc (bx17 x))) (hk : Below (w.heap.size + 1) ((w.alloc (bx17 x)).alloc (.cells #[] 5)) w2) (ho : w2.ownsRow (w.heap.size + 1) 5 1 v2 x.nb (x.bs.map (Value.int .u8))) :
    ∃ ao co, v2 = .slice ao x.nb co ∧ OW17 B w g r d x (fun y => B ≤ y ∧ ¬ (w.heap.size ≤ y ∧ y < w2.heap.size)) ao co w2 := by
  obtain ⟨ao, co, rfl, _⟩ := row_of_owns ho
  have hA : KO w ((w.alloc (bx17 x)).alloc (.cells #[] 5)) := KO.alloc hk1 _
  have hK : KO w w2 := hA.trans (hk.mono (Nat.le_succ _))
  refine ⟨ao, co, rfl, fun y q => q.1, fun y a b q => q.2 ⟨a, b⟩, h.skip hK, fun j v hv => ?_, ?_, ho, hK⟩
  · have hc : ((w.alloc (bx17 x)).alloc (.cells #[] 5)).cell? ⟨w.heap.size, j, none⟩ = some v := (Below.cell (p := ⟨w.heap.size, j, none⟩) (w := w.alloc (bx17 x)) (KO.alloc (KO.refl _) _) (by simp)).trans (by unfold bx17; rw [World.cell?_alloc_mark]; exact hv)
    exact (Below.cell (p := ⟨w.heap.size, j, none⟩) hk (by simp)).trans hc
  · have := hk.size
    simp at this
    omega
end

theorem does_write (B : Nat) (w : World) (g r : Nat) (d : Dk.Ds) (k : Nat) (h : PR (fun x => B ≤ x) w g r d d) (hB : B ≤ w.heap.size) (hb : Bd d k) (hk : k ≤ 4000) (x : A17) (hx : ∀ w', Below B w w' → Good17 w' x) (hkd : x.kd = 0) :
    Calls Try.prog 13 #[.pointer (some ⟨g, 0, none⟩), .pointer (some ⟨r, 0, none⟩), .agg #[.int .i64 x.kd, .int .i64 x.n, .int .i64 x.at', .slice x.ab x.nb x.cb, .slice x.ak x.nk x.ck]] w fun e w' => ∃ g' r' d', e = .returned (.tuple #[.pointer (some ⟨g', 0, none⟩), .pointer (some ⟨r', 0, none⟩), .bool true]) ∧ PR (fun x => B ≤ x) w' g' r' d' d' ∧ Bd d' (k + 1) ∧ Below B w w' := by
  have hG := hx w (Below.refl _ _)
  have HF1 := hide hG.f1
  have hbn := hG.bnd
  have hbk := hG.bnk
  have HBB := hide hG.bb
  have K1 : Hid (KO w (w.alloc (bx17 x))) := hide (KO.alloc (KO.refl _) _)
  have K2 : Hid (KO w ((w.alloc (bx17 x)).alloc (.cells #[] 5))) := hide (KO.alloc K1.out _)
  have OE : Hid (((w.alloc (bx17 x)).alloc (.cells #[] 5)).ownsRow (w.heap.size + 1) 5 1 (.slice (some ⟨w.heap.size + 1, 0, none⟩) 0 0) 0 []) := hide (owns_empty _ 5 _ (by simp))
  have HR2 := hide ((hx _ (K2.out.mono hB)).rb)
  have c3b : ((w.alloc (bx17 x)).alloc (.cells #[] 5)).cell? ⟨w.heap.size, 3, none⟩ = some (.slice x.ab x.nb x.cb) := (Below.cell (p := ⟨w.heap.size, 3, none⟩) (w := w.alloc (bx17 x)) (KO.alloc (KO.refl _) _) (by simp)).trans (by unfold bx17; rw [World.cell?_alloc_mark]; rfl)
  unfold bx17 at c3b
  have HSZ : Hid (w.heap.size + 1 ≤ ((w.alloc (bx17 x)).alloc (.cells #[] 5)).heap.size) := hide (by simp)
  have HOW := hide (fun v2 w2 hb ho => ow17_of (w1 := w) (w2 := w2) (v2 := v2) h K1.out hb ho)
  have HHX := hide hx
  have HBD := hide hb
  obtain ⟨i5, hi5, hz0, hz1, hz2⟩ := info_parts infoU8x
  have HI5 : Hid (Try.prog.info? 5 = some i5) := hi5
  have HZ0 := hide hz0
  have HZ1 := hide hz1
  have HZ2 := hide hz2
  have HKD := hide hkd
  clear hkd
  clear hG hx h hb hi5 hz0 hz1 hz2
  go_enter Try.func13, Try.ntmps13
  go_wp2_with (at_builtin; refine wpList_append_row _ rfl (.tmp 16) (.tmp 18) 33 rfl (w.heap.size + 1) 5 i5 (.int .u8 0) 1 Try.underlying33 HI5.out HZ0.out HZ1.out HZ2.out rfl _ 0 [] rfl OE.out .u8 x.ab x.nb x.cb x.bs rfl HR2.out (by omega) (by omega) HSZ.out ?_; intro v2 w2 ho2 hb2; rw [Nat.zero_add, List.nil_append] at ho2; obtain ⟨ao, co, hv2, ho⟩ := HOW.out v2 w2 hb2 ho2; subst hv2; have x0 : w2.cell? ⟨w.heap.size, 0, none⟩ = some (.int .i64 0) := by rw [← HKD.out]; exact ho.box 0 _ rfl)
  clear c3b ho2 hb2 x0
  have OW := hide ho
  generalize hQ : (fun y => B ≤ y ∧ ¬ (w.heap.size ≤ y ∧ y < w2.heap.size)) = Q at *
  have HM0 : Hid (Mod Q w2 w2) := hide (Mod.refl _ w2)
  clear hQ HOW HSZ OE HR2
  have HD := hide (fun W e0 (hm : Mod Q w2 W) (hp : PR Q W g r d e0) => show Calls Try.prog 17 #[.pointer (some ⟨g, 0, none⟩), .int .i64 x.n, .slice ao x.nb co] W fun y w' => y = .returned (.int .i64 (Dk.WR d x.n x.bs).2) ∧ (PR Q w' g r (Dk.WR d x.n x.bs).1 e0 ∧ Mod Q w2 w') ∧ PR Q w' g r (Dk.WR d x.n x.bs).1 e0 ∧ Mod Q w2 w' from (pd_write hp HBD.out (by omega) x.n ao x.nb co x.bs (row_owns17 (OW.out.owns hm)) HBB.out).mono fun y w' ⟨h1, h2, h3⟩ => ⟨h1, ⟨h2, hm.trans h3 fun i q => .inl q⟩, h2, hm.trans h3 fun i q => .inl q⟩)
  have HR := hide (fun W d0 (hm : Mod Q w2 W) (hp : PR Q W g r d0 d) => show Calls Try.prog 26 #[.pointer (some ⟨r, 0, none⟩), .int .i64 x.n, .string (str x.bs)] W fun y w' => y = .returned (.int .i64 (Dk.WR d x.n x.bs).2) ∧ (PR Q w' g r d0 (Dk.WR d x.n x.bs).1 ∧ Mod Q w2 w') ∧ PR Q w' g r d0 (Dk.WR d x.n x.bs).1 ∧ Mod Q w2 w' from (pr_write hp HBD.out (by omega) x.n x.bs HBB.out).mono fun y w' ⟨h1, h2, h3⟩ => ⟨h1, ⟨h2, hm.trans h3 fun i q => .inl q⟩, h2, hm.trans h3 fun i q => .inl q⟩)
  have hc1 : ∀ w', Mod Q w2 w' → w'.cell? ⟨w.heap.size, 1, none⟩ = some (.int .i64 x.n) := fun w' hm => OW.out.cell hm 1 _ rfl
  have hc3 : ∀ w', Mod Q w2 w' → w'.cell? ⟨w.heap.size, 3, none⟩ = some (.slice x.ab x.nb x.cb) := fun w' hm => OW.out.cell hm 3 _ rfl
  have hcv : ∀ w', Mod Q w2 w' → (convert 33 9 (.slice x.ab x.nb x.cb)).run Try.prog w' = .ok (.string (str x.bs)) w' := fun w' hm => run_str w' _ _ _ _ (HHX.out w' (OW.out.below hB hm)).rb HBB.out
  have hM0 : Mod Q w2 w2 := HM0.out
  have hMd : Mod Q w2 w2.drew := hM0.trans (Mod.of_ko (F := fun _ => False) (below_drewN w2 1)) fun i q => q.elim
  have hP0 : PR Q w2.drew g r d d := ho.both.ko (below_drewN w2 1)
  clear ho
  go_wp2_with fail
  refine wp_region_noPanic ?_
  go_region_held (fun w' => Mod Q w2 w') (first | assumption)
    (first
      | (go_at_call 17; refine (HD.out _ _ (by assumption) (by assumption)).mono ?_; rintro y w6 ⟨rfl, hq6, hp6, hm6⟩)
      | (go_at_call 26; refine (HR.out _ _ (by assumption) (by assumption)).mono ?_; rintro y w7 ⟨rfl, hq7, hp7, hm7⟩))
  all_goals
    refine NoPanic.normal ?_
    have HP := hide (show PR Q _ g r (Dk.WR d x.n x.bs).1 (Dk.WR d x.n x.bs).1 ∧ Mod Q w2 _ by assumption)
    clear hc1 hc3 hcv hM0 hMd hP0 HD HR
    have hcx := (row_owns17 OW.out.own).le
    have hmx := (row_owns17 OW.out.own).max
    unfold maxLen at hmx
    have HO6 := hide (OW.out.owns HP.out.2)
    have HBL := hide (OW.out.below hB HP.out.2)
    have HP1 := hide HP.out.1
    have HLT := hide HP.out.2.size
    have HBDW := hide (HBD.out.wr x.n x.bs)
    generalize (Dk.WR d x.n x.bs).1 = D at *
    generalize (Dk.WR d x.n x.bs).2 = cd at *
    clear HP
    go_wp2
    go_loopw [12, 38] (fun _ s38 wr => ∃ j : Nat, j ≤ x.nb ∧ s38 = .int .i64 (j : Int) ∧ ∃ zs : List Int, wr.ownsRow (w.heap.size + 1) 5 1 (.slice ao x.nb co) x.nb (zs.map (Value.int .u8)) ∧ PR Q wr g r D D ∧ Below B w wr) (fun _ s38 _ => x.nb - (intOf s38).toNat)
    case atStart => exact ⟨0, Nat.zero_le _, rfl, _, HO6.out, HP1.out, HBL.out⟩
    case round =>
      obtain ⟨j, hj, rfl, zs, hown, hpr, hbel⟩ := hrel
      by_cases hlt : j < x.nb
      · have e1 : (j : Int) < (x.nb : Int) := by omega
        obtain ⟨gb, cb, e2, hge, _⟩ := owns_pos OW.out.own (by omega)
        simp only [Value.slice.injEq] at e2
        obtain ⟨rfl, _, rfl⟩ := e2
        have hgl := (OW.out.own.lt gb rfl).2
        have cj := owns_cell hown j hlt
        have fj := hown.frozenAt j
        obtain ⟨old, hold⟩ : ∃ old, zs.getD j 0 = old := ⟨_, rfl⟩
        rw [hold] at cj
        have HN := hide (fun z => owns_set hown j z)
        have HPN := hide (fun z => hpr.keep (Mod.one _ gb j (.int .u8 z)) fun y _ q1 q2 => OW.out.out gb (by omega) hgl (q2 ▸ q1))
        have HBN := hide (fun z => Below.setCell hbel (p := ⟨gb, j, none⟩) (show B ≤ gb by omega) (.int .u8 z))
        clear hown hpr hbel hold
        go_wp2
        go_roundw
        case rel => exact ⟨j + 1, by omega, by go_num, _, HN.out _, HPN.out _, HBN.out _⟩
        case measure => simp [intOf]; omega
      · obtain ⟨j2, hj2⟩ : ∃ j2, x.nb = j2 := ⟨_, rfl⟩
        have hjj : j = j2 := by omega
        have hne : ¬ (j : Int) < (x.nb : Int) := by omega
        have HPE := hide (hpr.mono OW.out.low)
        have HBE := hide hbel
        clear hown hpr hbel
        go_wp2
        go_ret3
        first
          | exact ⟨_, _, rfl, ⟨_, HPE.out, HBDW.out⟩, HBE.out⟩
          | exact ⟨_, _, rfl, _, HPE.out, HBDW.out, HBE.out⟩
          | exact ⟨_, _, rfl, HBE.out, _, HPE.out, HBDW.out⟩

theorem does_flush (B : Nat) (w : World) (g r : Nat) (d : Dk.Ds) (k : Nat) (h : PR (fun x => B ≤ x) w g r d d) (hB : B ≤ w.heap.size) (hb : Bd d k) (hk : k ≤ 4000) (x : A17) (hx : ∀ w', Below B w w' → Good17 w' x) (hkd : x.kd = 1) :
    Calls Try.prog 13 #[.pointer (some ⟨g, 0, none⟩), .pointer (some ⟨r, 0, none⟩), .agg #[.int .i64 x.kd, .int .i64 x.n, .int .i64 x.at', .slice x.ab x.nb x.cb, .slice x.ak x.nk x.ck]] w fun e w' => ∃ g' r' d', e = .returned (.tuple #[.pointer (some ⟨g', 0, none⟩), .pointer (some ⟨r', 0, none⟩), .bool true]) ∧ PR (fun x => B ≤ x) w' g' r' d' d' ∧ Bd d' (k + 1) ∧ Below B w w' := by
  have hG := hx w (Below.refl _ _)
  have HF1 := hide hG.f1
  have hbn := hG.bnd
  have hbk := hG.bnk
  have HBB := hide hG.bb
  have K1 : Hid (KO w (w.alloc (bx17 x))) := hide (KO.alloc (KO.refl _) _)
  have K2 : Hid (KO w ((w.alloc (bx17 x)).alloc (.cells #[] 5))) := hide (KO.alloc K1.out _)
  have OE : Hid (((w.alloc (bx17 x)).alloc (.cells #[] 5)).ownsRow (w.heap.size + 1) 5 1 (.slice (some ⟨w.heap.size + 1, 0, none⟩) 0 0) 0 []) := hide (owns_empty _ 5 _ (by simp))
  have HR2 := hide ((hx _ (K2.out.mono hB)).rb)
  have c3b : ((w.alloc (bx17 x)).alloc (.cells #[] 5)).cell? ⟨w.heap.size, 3, none⟩ = some (.slice x.ab x.nb x.cb) := (Below.cell (p := ⟨w.heap.size, 3, none⟩) (w := w.alloc (bx17 x)) (KO.alloc (KO.refl _) _) (by simp)).trans (by unfold bx17; rw [World.cell?_alloc_mark]; rfl)
  unfold bx17 at c3b
  have HSZ : Hid (w.heap.size + 1 ≤ ((w.alloc (bx17 x)).alloc (.cells #[] 5)).heap.size) := hide (by simp)
  have HOW := hide (fun v2 w2 hb ho => ow17_of (w1 := w) (w2 := w2) (v2 := v2) h K1.out hb ho)
  have HHX := hide hx
  have HBD := hide hb
  obtain ⟨i5, hi5, hz0, hz1, hz2⟩ := info_parts infoU8x
  have HI5 : Hid (Try.prog.info? 5 = some i5) := hi5
  have HZ0 := hide hz0
  have HZ1 := hide hz1
  have HZ2 := hide hz2
  have HKD := hide hkd
  clear hkd
  clear hG hx h hb hi5 hz0 hz1 hz2
  go_enter Try.func13, Try.ntmps13
  go_wp2_with (at_builtin; refine wpList_append_row _ rfl (.tmp 16) (.tmp 18) 33 rfl (w.heap.size + 1) 5 i5 (.int .u8 0) 1 Try.underlying33 HI5.out HZ0.out HZ1.out HZ2.out rfl _ 0 [] rfl OE.out .u8 x.ab x.nb x.cb x.bs rfl HR2.out (by omega) (by omega) HSZ.out ?_; intro v2 w2 ho2 hb2; rw [Nat.zero_add, List.nil_append] at ho2; obtain ⟨ao, co, hv2, ho⟩ := HOW.out v2 w2 hb2 ho2; subst hv2; have x0 : w2.cell? ⟨w.heap.size, 0, none⟩ = some (.int .i64 1) := by rw [← HKD.out]; exact ho.box 0 _ rfl)
  clear c3b ho2 hb2 x0
  have OW := hide ho
  generalize hQ : (fun y => B ≤ y ∧ ¬ (w.heap.size ≤ y ∧ y < w2.heap.size)) = Q at *
  have HM0 : Hid (Mod Q w2 w2) := hide (Mod.refl _ w2)
  clear hQ HOW HSZ OE HR2
  have HD := hide (fun W e0 (hm : Mod Q w2 W) (hp : PR Q W g r d e0) => show Calls Try.prog 18 #[.pointer (some ⟨g, 0, none⟩)] W fun y w' => y = .returned (.int .i64 (Dk.FL d).2) ∧ (PR Q w' g r (Dk.FL d).1 e0 ∧ Mod Q w2 w') ∧ PR Q w' g r (Dk.FL d).1 e0 ∧ Mod Q w2 w' from (pd_flush hp HBD.out (by omega)).mono fun y w' ⟨h1, h2, h3⟩ => ⟨h1, ⟨h2, hm.trans h3 fun i q => .inl q⟩, h2, hm.trans h3 fun i q => .inl q⟩)
  have HR := hide (fun W d0 (hm : Mod Q w2 W) (hp : PR Q W g r d0 d) => show Calls Try.prog 27 #[.pointer (some ⟨r, 0, none⟩)] W fun y w' => y = .returned (.int .i64 (Dk.FL d).2) ∧ (PR Q w' g r d0 (Dk.FL d).1 ∧ Mod Q w2 w') ∧ PR Q w' g r d0 (Dk.FL d).1 ∧ Mod Q w2 w' from (pr_flush hp HBD.out (by omega)).mono fun y w' ⟨h1, h2, h3⟩ => ⟨h1, ⟨h2, hm.trans h3 fun i q => .inl q⟩, h2, hm.trans h3 fun i q => .inl q⟩)
  have hP0 : PR Q w2 g r d d := ho.both
  have hM0 : Mod Q w2 w2 := HM0.out
  clear ho
  go_wp2_with fail
  refine (HD.out _ _ hM0 hP0).mono ?_
  rintro y w6 ⟨rfl, hq6, hp6, hm6⟩
  clear hM0 hP0
  go_wp2_with fail
  refine (HR.out _ _ hm6 hp6).mono ?_
  rintro y w7 ⟨rfl, hq7, hp7, hm7⟩
  have HP := hide hq7
  clear hq6 hp6 hm6 hq7 hp7 hm7 HD HR
  have HBDF := hide HBD.out.fl
  generalize (Dk.FL d).1 = D at *
  generalize (Dk.FL d).2 = cd at *
  go_wp2
  go_ret3
  exact ⟨_, _, _, rfl, HP.out.1.mono OW.out.low, HBDF.out, OW.out.below hB HP.out.2⟩

theorem does_stop (B : Nat) (w : World) (g r : Nat) (d : Dk.Ds) (k : Nat) (h : PR (fun x => B ≤ x) w g r d d) (hB : B ≤ w.heap.size) (hb : Bd d k) (hk : k ≤ 4000) (x : A17) (hx : ∀ w', Below B w w' → Good17 w' x) (hkd : x.kd = 2) :
    Calls Try.prog 13 #[.pointer (some ⟨g, 0, none⟩), .pointer (some ⟨r, 0, none⟩), .agg #[.int .i64 x.kd, .int .i64 x.n, .int .i64 x.at', .slice x.ab x.nb x.cb, .slice x.ak x.nk x.ck]] w fun e w' => ∃ g' r' d', e = .returned (.tuple #[.pointer (some ⟨g', 0, none⟩), .pointer (some ⟨r', 0, none⟩), .bool true]) ∧ PR (fun x => B ≤ x) w' g' r' d' d' ∧ Bd d' (k + 1) ∧ Below B w w' := by
  have hG := hx w (Below.refl _ _)
  have HF1 := hide hG.f1
  have hbn := hG.bnd
  have hbk := hG.bnk
  have HBB := hide hG.bb
  have K1 : Hid (KO w (w.alloc (bx17 x))) := hide (KO.alloc (KO.refl _) _)
  have K2 : Hid (KO w ((w.alloc (bx17 x)).alloc (.cells #[] 5))) := hide (KO.alloc K1.out _)
  have OE : Hid (((w.alloc (bx17 x)).alloc (.cells #[] 5)).ownsRow (w.heap.size + 1) 5 1 (.slice (some ⟨w.heap.size + 1, 0, none⟩) 0 0) 0 []) := hide (owns_empty _ 5 _ (by simp))
  have HR2 := hide ((hx _ (K2.out.mono hB)).rb)
  have c3b : ((w.alloc (bx17 x)).alloc (.cells #[] 5)).cell? ⟨w.heap.size, 3, none⟩ = some (.slice x.ab x.nb x.cb) := (Below.cell (p := ⟨w.heap.size, 3, none⟩) (w := w.alloc (bx17 x)) (KO.alloc (KO.refl _) _) (by simp)).trans (by unfold bx17; rw [World.cell?_alloc_mark]; rfl)
  unfold bx17 at c3b
  have HSZ : Hid (w.heap.size + 1 ≤ ((w.alloc (bx17 x)).alloc (.cells #[] 5)).heap.size) := hide (by simp)
  have HOW := hide (fun v2 w2 hb ho => ow17_of (w1 := w) (w2 := w2) (v2 := v2) h K1.out hb ho)
  have HHX := hide hx
  have HBD := hide hb
  obtain ⟨i5, hi5, hz0, hz1, hz2⟩ := info_parts infoU8x
  have HI5 : Hid (Try.prog.info? 5 = some i5) := hi5
  have HZ0 := hide hz0
  have HZ1 := hide hz1
  have HZ2 := hide hz2
  have HKD := hide hkd
  clear hkd
  clear hG hx h hb hi5 hz0 hz1 hz2
  go_enter Try.func13, Try.ntmps13
  go_wp2_with (at_builtin; refine wpList_append_row _ rfl (.tmp 16) (.tmp 18) 33 rfl (w.heap.size + 1) 5 i5 (.int .u8 0) 1 Try.underlying33 HI5.out HZ0.out HZ1.out HZ2.out rfl _ 0 [] rfl OE.out .u8 x.ab x.nb x.cb x.bs rfl HR2.out (by omega) (by omega) HSZ.out ?_; intro v2 w2 ho2 hb2; rw [Nat.zero_add, List.nil_append] at ho2; obtain ⟨ao, co, hv2, ho⟩ := HOW.out v2 w2 hb2 ho2; subst hv2; have x0 : w2.cell? ⟨w.heap.size, 0, none⟩ = some (.int .i64 2) := by rw [← HKD.out]; exact ho.box 0 _ rfl)
  clear c3b ho2 hb2 x0
  have OW := hide ho
  generalize hQ : (fun y => B ≤ y ∧ ¬ (w.heap.size ≤ y ∧ y < w2.heap.size)) = Q at *
  have HM0 : Hid (Mod Q w2 w2) := hide (Mod.refl _ w2)
  clear hQ HOW HSZ OE HR2
  have HD := hide (fun W e0 (hm : Mod Q w2 W) (hp : PR Q W g r d e0) => show Calls Try.prog 19 #[.pointer (some ⟨g, 0, none⟩), .int .i64 x.n] W fun y w' => y = .returned (.int .i64 (Dk.ST d x.n).2) ∧ (PR Q w' g r (Dk.ST d x.n).1 e0 ∧ Mod Q w2 w') ∧ PR Q w' g r (Dk.ST d x.n).1 e0 ∧ Mod Q w2 w' from (pd_stop hp x.n).mono fun y w' ⟨h1, h2, h3⟩ => ⟨h1, ⟨h2, hm.trans h3 fun i q => .inl q⟩, h2, hm.trans h3 fun i q => .inl q⟩)
  have HR := hide (fun W d0 (hm : Mod Q w2 W) (hp : PR Q W g r d0 d) => show Calls Try.prog 28 #[.pointer (some ⟨r, 0, none⟩), .int .i64 x.n] W fun y w' => y = .returned (.int .i64 (Dk.ST d x.n).2) ∧ (PR Q w' g r d0 (Dk.ST d x.n).1 ∧ Mod Q w2 w') ∧ PR Q w' g r d0 (Dk.ST d x.n).1 ∧ Mod Q w2 w' from (pr_stop hp x.n).mono fun y w' ⟨h1, h2, h3⟩ => ⟨h1, ⟨h2, hm.trans h3 fun i q => .inl q⟩, h2, hm.trans h3 fun i q => .inl q⟩)
  have hc1 : ∀ w', Mod Q w2 w' → w'.cell? ⟨w.heap.size, 1, none⟩ = some (.int .i64 x.n) := fun w' hm => OW.out.cell hm 1 _ rfl
  have hM0 : Mod Q w2 w2 := HM0.out
  have hMd : Mod Q w2 w2.drew := hM0.trans (Mod.of_ko (F := fun _ => False) (below_drewN w2 1)) fun i q => q.elim
  have hP0 : PR Q w2.drew g r d d := ho.both.ko (below_drewN w2 1)
  clear ho
  go_wp2_with fail
  refine wp_region_noPanic ?_
  go_region_held (fun w' => Mod Q w2 w') (first | assumption)
    (first
      | (go_at_call 19; refine (HD.out _ _ (by assumption) (by assumption)).mono ?_; rintro y w6 ⟨rfl, hq6, hp6, hm6⟩)
      | (go_at_call 28; refine (HR.out _ _ (by assumption) (by assumption)).mono ?_; rintro y w7 ⟨rfl, hq7, hp7, hm7⟩))
  all_goals
    refine NoPanic.normal ?_
    have HP := hide (show PR Q _ g r (Dk.ST d x.n).1 (Dk.ST d x.n).1 ∧ Mod Q w2 _ by assumption)
    have HBDS := hide (HBD.out.st x.n (bounds_i64 HF1.out).2)
    clear hc1 hM0 hMd hP0 HD HR
    generalize (Dk.ST d x.n).1 = D at *
    generalize (Dk.ST d x.n).2 = cd at *
    go_wp2
    go_ret3
    exact ⟨_, _, _, rfl, HP.out.1.mono OW.out.low, HBDS.out.mono (Nat.le_succ _), OW.out.below hB HP.out.2⟩

theorem does_spoil (B : Nat) (w : World) (g r : Nat) (d : Dk.Ds) (k : Nat) (h : PR (fun x => B ≤ x) w g r d d) (hB : B ≤ w.heap.size) (hb : Bd d k) (hk : k ≤ 4000) (x : A17) (hx : ∀ w', Below B w w' → Good17 w' x) (hkd : x.kd = 3) :
    Calls Try.prog 13 #[.pointer (some ⟨g, 0, none⟩), .pointer (some ⟨r, 0, none⟩), .agg #[.int .i64 x.kd, .int .i64 x.n, .int .i64 x.at', .slice x.ab x.nb x.cb, .slice x.ak x.nk x.ck]] w fun e w' => ∃ g' r' d', e = .returned (.tuple #[.pointer (some ⟨g', 0, none⟩), .pointer (some ⟨r', 0, none⟩), .bool true]) ∧ PR (fun x => B ≤ x) w' g' r' d' d' ∧ Bd d' (k + 1) ∧ Below B w w' := by
  have hG := hx w (Below.refl _ _)
  have HF1 := hide hG.f1
  have hbn := hG.bnd
  have hbk := hG.bnk
  have HBB := hide hG.bb
  have K1 : Hid (KO w (w.alloc (bx17 x))) := hide (KO.alloc (KO.refl _) _)
  have K2 : Hid (KO w ((w.alloc (bx17 x)).alloc (.cells #[] 5))) := hide (KO.alloc K1.out _)
  have OE : Hid (((w.alloc (bx17 x)).alloc (.cells #[] 5)).ownsRow (w.heap.size + 1) 5 1 (.slice (some ⟨w.heap.size + 1, 0, none⟩) 0 0) 0 []) := hide (owns_empty _ 5 _ (by simp))
  have HR2 := hide ((hx _ (K2.out.mono hB)).rb)
  have c3b : ((w.alloc (bx17 x)).alloc (.cells #[] 5)).cell? ⟨w.heap.size, 3, none⟩ = some (.slice x.ab x.nb x.cb) := (Below.cell (p := ⟨w.heap.size, 3, none⟩) (w := w.alloc (bx17 x)) (KO.alloc (KO.refl _) _) (by simp)).trans (by unfold bx17; rw [World.cell?_alloc_mark]; rfl)
  unfold bx17 at c3b
  have HSZ : Hid (w.heap.size + 1 ≤ ((w.alloc (bx17 x)).alloc (.cells #[] 5)).heap.size) := hide (by simp)
  have HOW := hide (fun v2 w2 hb ho => ow17_of (w1 := w) (w2 := w2) (v2 := v2) h K1.out hb ho)
  have HHX := hide hx
  have HBD := hide hb
  obtain ⟨i5, hi5, hz0, hz1, hz2⟩ := info_parts infoU8x
  have HI5 : Hid (Try.prog.info? 5 = some i5) := hi5
  have HZ0 := hide hz0
  have HZ1 := hide hz1
  have HZ2 := hide hz2
  have HKD := hide hkd
  clear hkd
  have HWU : Hid (0 ≤ IntKind.u8.wrap (x.nb : Int) ∧ IntKind.u8.wrap (x.nb : Int) ≤ 255) := hide (by rw [IntKind.wrap_u8]; omega)
  clear hG hx h hb hi5 hz0 hz1 hz2
  go_enter Try.func13, Try.ntmps13
  go_wp2_with (at_builtin; refine wpList_append_row _ rfl (.tmp 16) (.tmp 18) 33 rfl (w.heap.size + 1) 5 i5 (.int .u8 0) 1 Try.underlying33 HI5.out HZ0.out HZ1.out HZ2.out rfl _ 0 [] rfl OE.out .u8 x.ab x.nb x.cb x.bs rfl HR2.out (by omega) (by omega) HSZ.out ?_; intro v2 w2 ho2 hb2; rw [Nat.zero_add, List.nil_append] at ho2; obtain ⟨ao, co, hv2, ho⟩ := HOW.out v2 w2 hb2 ho2; subst hv2; have x0 : w2.cell? ⟨w.heap.size, 0, none⟩ = some (.int .i64 3) := by rw [← HKD.out]; exact ho.box 0 _ rfl)
  clear c3b ho2 hb2 x0
  have OW := hide ho
  generalize hQ : (fun y => B ≤ y ∧ ¬ (w.heap.size ≤ y ∧ y < w2.heap.size)) = Q at *
  have HM0 : Hid (Mod Q w2 w2) := hide (Mod.refl _ w2)
  clear hQ HOW HSZ OE HR2
  have HD := hide (fun W e0 (hm : Mod Q w2 W) (hp : PR Q W g r d e0) => show Calls Try.prog 20 #[.pointer (some ⟨g, 0, none⟩), .int .i64 x.n, .int .i64 x.at', .int .u8 (IntKind.u8.wrap (x.nb : Int))] W fun y w' => y = .returned (.int .i64 (Dk.SP d x.n x.at' (IntKind.u8.wrap (x.nb : Int))).2) ∧ (PR Q w' g r (Dk.SP d x.n x.at' (IntKind.u8.wrap (x.nb : Int))).1 e0 ∧ Mod Q w2 w') ∧ PR Q w' g r (Dk.SP d x.n x.at' (IntKind.u8.wrap (x.nb : Int))).1 e0 ∧ Mod Q w2 w' from (pd_spoil hp x.n x.at' _ HWU.out).mono fun y w' ⟨h1, h2, h3⟩ => ⟨h1, ⟨h2, hm.trans h3 fun i q => .inl q⟩, h2, hm.trans h3 fun i q => .inl q⟩)
  have HR := hide (fun W d0 (hm : Mod Q w2 W) (hp : PR Q W g r d0 d) => show Calls Try.prog 29 #[.pointer (some ⟨r, 0, none⟩), .int .i64 x.n, .int .i64 x.at', .int .u8 (IntKind.u8.wrap (x.nb : Int))] W fun y w' => y = .returned (.int .i64 (Dk.SP d x.n x.at' (IntKind.u8.wrap (x.nb : Int))).2) ∧ (PR Q w' g r d0 (Dk.SP d x.n x.at' (IntKind.u8.wrap (x.nb : Int))).1 ∧ Mod Q w2 w') ∧ PR Q w' g r d0 (Dk.SP d x.n x.at' (IntKind.u8.wrap (x.nb : Int))).1 ∧ Mod Q w2 w' from (pr_spoil hp x.n x.at' _ HWU.out).mono fun y w' ⟨h1, h2, h3⟩ => ⟨h1, ⟨h2, hm.trans h3 fun i q => .inl q⟩, h2, hm.trans h3 fun i q => .inl q⟩)
  have hc1 : ∀ w', Mod Q w2 w' → w'.cell? ⟨w.heap.size, 1, none⟩ = some (.int .i64 x.n) := fun w' hm => OW.out.cell hm 1 _ rfl
  have hc2 : ∀ w', Mod Q w2 w' → w'.cell? ⟨w.heap.size, 2, none⟩ = some (.int .i64 x.at') := fun w' hm => OW.out.cell hm 2 _ rfl
  have hc3 : ∀ w', Mod Q w2 w' → w'.cell? ⟨w.heap.size, 3, none⟩ = some (.slice x.ab x.nb x.cb) := fun w' hm => OW.out.cell hm 3 _ rfl
  have hM0 : Mod Q w2 w2 := HM0.out
  have hMd : Mod Q w2 w2.drew := hM0.trans (Mod.of_ko (F := fun _ => False) (below_drewN w2 1)) fun i q => q.elim
  have hP0 : PR Q w2.drew g r d d := ho.both.ko (below_drewN w2 1)
  clear ho
  go_wp2_with fail
  refine wp_region_noPanic ?_
  go_region_held (fun w' => Mod Q w2 w') (first | assumption)
    (first
      | (go_at_call 20; refine (HD.out _ _ (by assumption) (by assumption)).mono ?_; rintro y w6 ⟨rfl, hq6, hp6, hm6⟩)
      | (go_at_call 29; refine (HR.out _ _ (by assumption) (by assumption)).mono ?_; rintro y w7 ⟨rfl, hq7, hp7, hm7⟩))
  all_goals
    refine NoPanic.normal ?_
    have HP := hide (show PR Q _ g r (Dk.SP d x.n x.at' (IntKind.u8.wrap (x.nb : Int))).1 (Dk.SP d x.n x.at' (IntKind.u8.wrap (x.nb : Int))).1 ∧ Mod Q w2 _ by assumption)
    have HBDS := hide (HBD.out.sp x.n x.at' (IntKind.u8.wrap (x.nb : Int)))
    clear hc1 hc2 hc3 hM0 hMd hP0 HD HR
    generalize (Dk.SP d x.n x.at' (IntKind.u8.wrap (x.nb : Int))).1 = D at *
    generalize (Dk.SP d x.n x.at' (IntKind.u8.wrap (x.nb : Int))).2 = cd at *
    go_wp2
    go_ret3
    exact ⟨_, _, _, rfl, HP.out.1.mono OW.out.low, HBDS.out.mono (Nat.le_succ _), OW.out.below hB HP.out.2⟩

end Go.Proofs.Ythhfgcpflclflaa
