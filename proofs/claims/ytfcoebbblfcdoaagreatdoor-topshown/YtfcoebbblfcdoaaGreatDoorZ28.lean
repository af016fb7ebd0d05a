import Derived.Test.YtfcoebbblfcdoaaGreatDoorZ27
import Derived.Test.YtfcoebbblfcdoaaGreatDoorZ26
import Derived.Test.YtfcoebbblfcdoaaGreatDoorZ18
import Derived.Test.YtfcoebbblfcdoaaGreatDoorZ25
import Derived.Test.YtfcoebbblfcdoaaGreatDoorZ06
import Derived.Deep.RegionHeldLaw
import Derived.Deep.RegionHeld3
import Derived.WalkArith
/- Lists of lists that a call has made and that are read; the program's Runs. -/
namespace Go.Proofs.YtfcoebbblfcdoaaGreatDoor
open Go.RowKit
set_option linter.unusedVariables false
set_option maxHeartbeats 1600000
set_option maxRecDepth 100000
theorem infoInts13 : (Tryz.prog.info? 30).map (fun i => (i.zero, i.size, i.bytes)) = some (some (.slice none 0 0), 1, 24) := by kernel_rfl
theorem unlike_blocks {w : World} {B B' e e' n m : Nat} {v u : Value} {xs ys : List Value} (h : w.ownsRow B e 1 v n xs) (h' : w.ownsRow B' e' 1 u m ys) (hne : ¬ e = e') : u.ownBlock = none \/ u.ownBlock ≠ v.ownBlock := by
 rcases h.2 with ⟨rfl, _⟩ | ⟨a, cap, cur, rfl, _, ha, _⟩
 ·cases hu : u.ownBlock with
  | none => exact .inl rfl
  | some g => exact .inr (by simp [Value.ownBlock])
 ·rcases h'.2 with ⟨rfl, _⟩ | ⟨b, cap', cur', rfl, _, hb, _⟩
  ·exact .inl rfl
  ·refine .inr fun q => ?_
   simp only [Value.ownBlock, Option.some.injEq] at q
   subst q
   rw [ha] at hb
   simp only [Option.some.injEq, Obj.cells.injEq] at hb
   exact hne hb.2.1
structure RL (w : World) (ao : Option Addr) (cap : Nat) (rows : List (List Int)) : Prop where
 le : rows.length <= cap
 max : cap <= maxLen
 at' : ∀ j, j < rows.length -> ∃ b off a c, ao = some ⟨b, off, none⟩ /\ b < w.heap.size /\ w.cell? ⟨b, off + j, none⟩ = some (.slice a (rows.getD j []).length c) /\ Row .i64 w a (rows.getD j []).length c (rows.getD j [])
theorem RL.below {w w' : World} {ao : Option Addr} {cap : Nat} {rows : List (List Int)} (h : RL w ao cap rows) (hb : KO w w') : RL w' ao cap rows :=
 ⟨h.le, h.max, fun j hj => by
  obtain ⟨b, off, a, c, e, hlt, hc, hr⟩ := h.at' j hj
  exact ⟨b, off, a, c, e, Nat.lt_of_lt_of_le hlt hb.size, (hb.cell (by exact hlt)).trans hc, hr.below hb⟩⟩
structure LR (B : Nat) (w : World) (v : Value) (vs : List Value) (rows : List (List Int)) : Prop where
 oa : w.ownsRow B 30 1 v rows.length vs
 rows : ∀ j, j < rows.length -> ∃ u, vs[j]? = some u /\ w.ownsRow B 3 1 u (rows.getD j []).length ((rows.getD j []).map (Value.int .i64))
theorem LR.begin (B : Nat) (w : World) : LR B w (.slice none 0 0) [] [] := ⟨World.ownsRow_nil _ _ _ _, fun j hj => by simp at hj⟩
theorem LR.below {B : Nat} {w w' : World} {v : Value} {vs : List Value} {rows : List (List Int)} (h : LR B w v vs rows) (hb : KO w w') : LR B w' v vs rows :=
 ⟨owns_below h.oa hb, fun j hj => by obtain ⟨u, h1, h2⟩ := h.rows j hj; exact ⟨u, h1, owns_below h2 hb⟩⟩
theorem LR.push {B : Nat} {w w' : World} {v v' u : Value} {vs : List Value} {rows : List (List Int)} {r : List Int} (h : LR B w v vs rows) (hu : w.ownsRow B 3 1 u r.length (r.map (Value.int .i64))) (ho : w'.ownsRow B 30 1 v' (rows.length + 1) (vs ++ [u])) (hg : w.grownBy w' v.ownBlock) : LR B w' v' (vs ++ [u]) (rows ++ [r]) := by
 have hl : vs.length = rows.length := by have := h.oa.1; simpa using this
 refine ⟨by simpa using ho, fun j hj => ?_⟩
 by_cases hj2 : j < rows.length
 ·obtain ⟨x, h1, h2⟩ := h.rows j hj2
  have e : (rows ++ [r]).getD j [] = rows.getD j [] := by simp [List.getD, List.getElem?_append_left hj2]
  rw [e]
  exact ⟨x, by rw [List.getElem?_append_left (by omega)]; exact h1, h2.kept hg (unlike_blocks h.oa h2 (by decide))⟩
 ·obtain rfl : j = rows.length := by simp at hj; omega
  have e : (rows ++ [r]).getD rows.length [] = r := by simp [List.getD]
  rw [e]
  exact ⟨u, by rw [<- hl]; simp, hu.kept hg (unlike_blocks h.oa hu (by decide))⟩
theorem LR.read {B : Nat} {w : World} {v : Value} {vs : List Value} {rows : List (List Int)} (h : LR B w v vs rows) : ∃ a c, v = .slice a rows.length c /\ RL w a c rows := by
 have hl : vs.length = rows.length := by have := h.oa.1; simpa using this
 rcases h.oa.2 with ⟨rfl, h0⟩ | ⟨g, cap, cur, rfl, hb, hg, hn, hc, hs, ht⟩
 ·exact ⟨none, 0, by rw [h0], ⟨by omega, Nat.zero_le _, fun j hj => by omega⟩⟩
 ·refine ⟨_, cap, rfl, ⟨hn, hc, fun j hj => ?_⟩⟩
  obtain ⟨u, h1, h2⟩ := h.rows j hj
  obtain ⟨a, c, rfl, hr⟩ := row_of_owns h2
  refine ⟨g, 0, a, c, rfl, (Array.getElem?_eq_some_iff.1 hg).1, ?_, hr⟩
  rw [Nat.zero_add, h.oa.cellAt j (by omega)]
  exact h1
namespace Od
def rows (lv : List Int) (l : List Nat) (k : Nat) : List (List Int) := (rn lv l k).1.map fun p => Z (pc l p)
def RR (lv : List Int) : List (List Int) := rows lv (OD lv) (OD lv).length
theorem rows_cut {lv : List Int} {l : List Nat} {b e : Nat} (hbe : b < e) (hel : e <= l.length) (hb : (rn lv l b).2 = b) (hsame : ∀ k, b <= k -> k + 1 < e -> lv.getD (l.getD (k + 1) 0) 0 = lv.getD (l.getD k 0) 0) (hend : e = l.length \/ ¬ lv.getD (l.getD e 0) 0 = lv.getD (l.getD (e - 1) 0) 0) :
  rows lv l e = rows lv l b ++ [Z (pc l (b, e))] /\ (rn lv l e).2 = e := by
 have key : ∀ d, b + d < e -> rn lv l (b + d) = rn lv l b := by
  intro d
  induction d with
  | zero => intro _; rfl
  | succ d ih =>
   intro hd
   rw [show b + (d + 1) = (b + d) + 1 by omega, rn_on, ih (by omega)]
   rintro (q | q)
   ·omega
   ·exact q (hsame (b + d) (by omega) (by omega))
 obtain ⟨d, rfl⟩ : ∃ d, e = (b + d) + 1 := ⟨e - 1 - b, by omega⟩
 have hk := key d (by omega)
 have hc := rn_cut (lv := lv) (l := l) (k := b + d) (by simpa using hend)
 rw [hk, hb] at hc
 constructor
 ·unfold rows
  rw [hc]
  simp
 ·rw [hc]
theorem RR_flat (lv : List Int) : (RR lv).flatten = ON lv := by
 have h := rn_all (lv := lv) (l := OD lv)
 unfold RR rows ON Z
 have e : ((rn lv (OD lv) (OD lv).length).1.map fun p => (pc (OD lv) p).map fun (x : Nat) => (x : Int)) = ((rn lv (OD lv) (OD lv).length).1.map (pc (OD lv))).map (List.map fun (x : Nat) => (x : Int)) := by rw [List.map_map]; rfl
 rw [e, <- List.map_flatten, h]
theorem rows_le (lv : List Int) (l : List Nat) : ∀ k, (rows lv l k).length <= k
 | 0 => Nat.le_refl _
 | k + 1 => by
  have := rows_le lv l k
  unfold rows at *
  rw [List.length_map] at *
  rw [rn]
  split
  ·simp; omega
  ·omega
theorem rows_more (lv : List Int) (l : List Nat) (k : Nat) : (rows lv l k).length <= (rows lv l (k + 1)).length := by
 unfold rows
 rw [List.length_map, List.length_map, rn]
 split
 ·simp
 ·exact Nat.le_refl _
theorem rows_mono (lv : List Int) (l : List Nat) (e : Nat) : ∀ d, (rows lv l e).length <= (rows lv l (e + d)).length
 | 0 => Nat.le_refl _
 | d + 1 => Nat.le_trans (rows_mono lv l e d) (rows_more lv l (e + d))
theorem rows_all (lv : List Int) {e : Nat} (h : e <= (OD lv).length) : (rows lv (OD lv) e).length <= (RR lv).length := by
 have := rows_mono lv (OD lv) e ((OD lv).length - e)
 rw [show e + ((OD lv).length - e) = (OD lv).length by omega] at this
 exact this
theorem pc_Z (l : List Nat) {b e : Nat} : Z (pc l (b, e)) = ((Z l).drop b).take (e - b) := by
 unfold pc Z
 simp only
 rw [List.drop_take, List.map_take, List.map_drop]
end Od
end Go.Proofs.YtfcoebbblfcdoaaGreatDoor

/- The program's Runs, by contract. -/
namespace Go.Proofs.YtfcoebbblfcdoaaGreatDoor
open Go.RowKit
set_option linter.unusedVariables false
set_option maxHeartbeats 700000
set_option maxRecDepth 100000
theorem ru_new (w : World) (v : Value) (t : TypeId) : ∀ j u, ([v] : List Value)[j]? = some u -> (w.alloc (.cells #[v] t)).cell? ((⟨w.heap.size, 0, none⟩ : Addr).add j) = some u := by
 intro j u hj
 match j, hj with
 | 0, hj =>
  simp at hj
  subst hj
  rw [add_zero0, World.cell?_alloc_mark]
  rfl
 | j + 1, hj => simp at hj
theorem runs_bad (ao : Option Addr) (n cap : Nat) (l : List Int) (w : World) (h : Row .i64 w ao n cap l) (hf : ¬ Od.Fo l) :
  Calls Tryz.prog 23 #[.slice ao n cap] w fun e w' => e = .returned (.tuple #[.slice none 0 0, .int .i64 2]) /\ w = w' := by
 have HA := hide (order_bad ao n cap l w h hf)
 clear h hf
 go_enter Tryz.func23, Tryz.ntmps23
 go_wp2_with (go_at_call 47; refine HA.out.mono ?_; rintro e w' ⟨rfl, rfl⟩)
 go_ret2
 exact ⟨rfl, rfl⟩
theorem OD_getD_lt {l : List Int} (hf : Od.Fo l) {k : Nat} (hk : k < (Od.OD l).length) : (Od.OD l).getD k 0 < l.length := Od.OD_lt hf (Od.OD_in hk)
theorem runs_ok (ao : Option Addr) (n cap : Nat) (l : List Int) (w : World) (h : Row .i64 w ao n cap l) (hf : Od.Fo l) (hn : n * 8 <= 281474976702464) (K : Nat) (hK : (Od.RR l).length <= K) (hKN : K * 24 <= 140737488355328) :
  Calls Tryz.prog 23 #[.slice ao n cap] w fun e w' => ∃ a c, e = .returned (.tuple #[.slice a (Od.RR l).length c, .int .i64 0]) /\ RL w' a c (Od.RR l) /\ KO w w' := by
 have HO := hide (order_ok ao n cap l w h hf (by omega))
 have H := hide h
 have HL := hide h.len
 have HF := hide hf
 have HON := hide (Od.ON_len l)
 have HLT := hide (fun k (hk : k < (Od.OD l).length) => OD_getD_lt hf hk)
 have HPC := hide (fun b e => Od.pc_Z (Od.OD l) (b := b) (e := e))
 have HZ := hide (show Od.ON l = Od.Z (Od.OD l) from rfl)
 have hLn : (Od.OD l).length <= 35184372087808 := by
  have := Od.K_le l
  have h2 := Od.OD_len l
  rw [h.len] at this
  omega
 have HMO := hide (fun e (he : e <= (Od.OD l).length) => Nat.le_trans (Od.rows_all l he) hK)
 have HRR := hide (show Od.RR l = Od.rows l (Od.OD l) (Od.OD l).length from rfl)
 obtain ⟨jj, hjj, hz0, hz1, hz2⟩ := info_parts infoInts13
 have HJJ : Hid (Tryz.prog.info? 30 = some jj) := hjj
 have HZ0 := hide hz0
 have HZ1 := hide hz1
 have HZ2 := hide hz2
 obtain ⟨ii, hii, _⟩ := info_parts infoInt
 have HII : Hid (Tryz.prog.info? 3 = some ii) := hii
 clear h hf hjj hz0 hz1 hz2 hii hK
 generalize hOD : Od.OD l = od at *
 have HOD := hide hOD
 clear hOD
 obtain ⟨m, hm⟩ : ∃ m, od.length = m := ⟨_, rfl⟩
 rw [hm] at hLn
 have HM := hide hm
 rw [hm] at HO HLT HRR HMO
 clear hm
 go_enter Tryz.func23, Tryz.ntmps23
 go_wp2_with (go_at_call 47; refine HO.out.mono ?_; rintro e w1 ⟨v1, rfl, ho1, hk1⟩; obtain ⟨ap, cp, ev, hp⟩ := row_of_owns ho1; subst ev; have HP := hide hp; have K1 := hide hk1; clear ho1 hk1 hp HO)
 go_loopw [6, 7, 8] (fun s6 s7 s8 W => ∃ (va : Value) (b : Nat), va = s6 /\ s7 = .int .i64 (b : Int) /\ b <= m /\ Hid ((Od.rn l od b).2 = b) /\ Hid (∃ vs, LR w1.heap.size W va vs (Od.rows l od b)) /\ Hid (KO w1 W)) (fun _ s7 _ _ => m - (intOf s7).toNat)
 case atStart => exact ⟨_, 0, rfl, rfl, Nat.zero_le _, hide rfl, hide ⟨[], LR.begin _ _⟩, hide (KO.refl w1)⟩
 case round =>
  obtain ⟨va, b, hva, rfl, hb, hrn, hlr, hkw⟩ := hrel
  subst hva
  by_cases hlt : b < m
  ·have hin : (b : Int) < (m : Int) := by omega
   go_wp2
   go_loopw [8] (fun s8 W => ∃ e : Nat, s8 = .int .i64 (e : Int) /\ b < e /\ e <= m /\ Hid (∀ k, b <= k -> k < e -> l.getD (od.getD k 0) 0 = l.getD (od.getD b 0) 0) /\ Hid (∃ vs, LR w1.heap.size W va vs (Od.rows l od b)) /\ Hid (KO w1 W)) (fun s8 _ => m - (intOf s8).toNat)
   case atStart => exact ⟨b + 1, by go_num, by omega, by omega, hide (fun k h1 h2 => by rw [show k = b by omega]), hlr, hkw⟩
   case round =>
    clear hlr hkw
    obtain ⟨e, rfl, hbe, hem, hall, hlr, hkw⟩ := hrel
    have hrun : Hid ((e = od.length \/ ¬ l.getD (od.getD e 0) 0 = l.getD (od.getD b 0) 0) -> Od.rows l od e = Od.rows l od b ++ [Od.Z (Od.pc od (b, e))] /\ (Od.rn l od e).2 = e) := hide (fun q => Od.rows_cut hbe (by rw [HM.out]; exact hem) hrn.out (fun k h1 h2 => by rw [hall.out (k + 1) (by omega) h2, hall.out k h1 (by omega)]) (by
     rcases q with q | q
     ·exact .inl q
     ·exact .inr (by rw [hall.out (e - 1) (by omega) (by omega)]; exact q)))
    by_cases hlt2 : e < m
    ·have hin2 : (e : Int) < (m : Int) := by omega
     obtain ⟨bp, op, rfl, hbp, hcp⟩ := HP.out.cells (by omega)
     have hxe := HLT.out e hlt2
     have hxb := HLT.out b hlt
     rw [HL.out] at hxe hxb
     obtain ⟨bl, ol, rfl, hbl, hcl⟩ := H.out.cells (by omega)
     have KW := hide (KO.on K1.out hkw.out)
     have zl : ∀ k, k < m -> (Od.ON l).getD k 0 = (od.getD k 0 : Int) := fun k hk => by rw [HZ.out]; exact Od.Z_at od (by rw [HM.out]; exact hk)
     have c1 := (Below.cell hkw.out (by exact hbp)).trans (hcp e (by rw [HON.out, HM.out]; exact hlt2))
     have c2 := (Below.cell hkw.out (by exact hbp)).trans (hcp b (by rw [HON.out, HM.out]; exact hlt))
     rw [zl e hlt2] at c1
     rw [zl b hlt] at c2
     have c3 := (Below.cell KW.out (by exact hbl)).trans (hcl (od.getD e 0) (by rw [HL.out]; exact hxe))
     have c4 := (Below.cell KW.out (by exact hbl)).trans (hcl (od.getD b 0) (by rw [HL.out]; exact hxb))
     have hxe2 : ((od.getD e 0 : Nat) : Int) < (n : Int) := by omega
     have hxb2 : ((od.getD b 0 : Nat) : Int) < (n : Int) := by omega
     clear hcp hcl zl
     by_cases heq : l.getD (od.getD e 0) 0 = l.getD (od.getD b 0) 0
     ·have HA : Hid (∀ k, b <= k -> k < e + 1 -> l.getD (od.getD k 0) 0 = l.getD (od.getD b 0) 0) := hide (fun k h1 h2 => by
       by_cases ek : k = e
       ·rw [ek]; exact heq
       ·exact hall.out k h1 (by omega))
      rw [heq] at c3
      clear hall hrun heq
      generalize l.getD (od.getD b 0) 0 = y at c3 c4 HA ⊢
      generalize od.getD e 0 = xe at *
      generalize od.getD b 0 = xb at *
      have hyy : (y == y) = true := by simp
      go_wp2_with fail
      go_quiet (fail)
      go_wp2
      go_roundw
      case rel =>
       refine ⟨e + 1, by go_num, by omega, by omega, HA, hide ?_, hide (KO.on hkw.out (below_of_drewN ⟨_, rfl⟩))⟩
       obtain ⟨vs, hvs⟩ := hlr.out
       exact ⟨vs, hvs.below (below_of_drewN ⟨_, rfl⟩)⟩
      case measure => simp [intOf]; omega
     ·have HR2 := hide (hrun.out (.inr heq))
      have hne : (l.getD (od.getD e 0) 0 == l.getD (od.getD b 0) 0) = false := beq_eq_false_iff_ne.2 heq
      clear hall hrun heq
      generalize l.getD (od.getD b 0) 0 = y at c4 hne
      generalize l.getD (od.getD e 0) 0 = y2 at c3 hne
      generalize od.getD e 0 = xe at *
      generalize od.getD b 0 = xb at *
      go_wp2_with fail
      go_quiet (fail)
      have K4 := hide (KO.on hkw.out (below_drewN wr nq))
      have hlr4 : ∃ vs, LR w1.heap.size (wr.drewN nq) va vs (Od.rows l od b) := by obtain ⟨vs, hvs⟩ := hlr.out; exact ⟨vs, hvs.below (below_drewN wr nq)⟩
      clear hlr hkw c1 c2 c3 c4 hne
      generalize wr.drewN nq = w4 at *
      obtain ⟨vs, hvs⟩ := hlr4
      have hNb : (Od.rows l od b).length + 1 <= K := by
       have h1 := HMO.out e hem
       rw [HR2.out.1, List.length_append, List.length_singleton] at h1
       exact h1
      obtain ⟨N, hN⟩ : ∃ N, (Od.rows l od b).length = N := ⟨_, rfl⟩
      have hoa := hvs.oa
      rw [hN] at hoa hNb
      obtain ⟨a6, c6, hva, _⟩ := owns_form hoa
      subst hva
      have hP4 := HP.out.below K4.out
      have hple := hP4.le
      have hmid := fun W => run_mid (P := Tryz.prog) Tryz.underlying30 HII.out cellsInt (some ⟨bp, op, none⟩) m cp b e (by omega) (by omega) W
      have HCL := hide (clone_any (tl (some ⟨bp, op, none⟩) cp b) (e - b) (cp - b) _ w4 ((hP4.drop (j := b) (by omega)).take (e := e - b) (by omega)) (by omega))
      have hpc : ((Od.ON l).drop b).take (e - b) = Od.Z (Od.pc od (b, e)) := by rw [HPC.out b e, HZ.out]
      rw [hpc] at HCL
      have hrl : (Od.Z (Od.pc od (b, e))).length = e - b := by rw [<- hpc, List.length_take, List.length_drop, HON.out, HM.out]; omega
      have HVS := hide hvs
      have HRL := hide hrl
      have HNN := hide hN
      clear hvs hoa hP4 hpc hrl hN
      go_wp2_with fail
      refine HCL.out.mono ?_
      rintro e5 w5 ⟨u, rfl, hu5, hk5⟩
      obtain ⟨au, cu, hu, _⟩ := owns_form hu5
      subst hu
      have hs4 := K4.out.size
      have HU6 := hide ((owns_below hu5 (KO.alloc (KO.refl w5) (.cells #[.slice au (e - b) cu] 30))))
      have HV6 := hide ((HVS.out.below hk5).below (KO.alloc (KO.refl w5) (.cells #[.slice au (e - b) cu] 30)))
      have K6 := hide (KO.on K4.out (KO.on hk5 (KO.alloc (KO.refl w5) (.cells #[.slice au (e - b) cu] 30))))
      have HOA := hide (show (w5.alloc (.cells #[.slice au (e - b) cu] 30)).ownsRow w1.heap.size 30 1 (.slice a6 N c6) N vs from by have := HV6.out.oa; rw [HNN.out] at this; exact this)
      have hs6 : w1.heap.size <= (w5.alloc (.cells #[.slice au (e - b) cu] 30)).heap.size := K6.out.size
      clear hu5 hk5 HCL HVS
      go_wp2_with (at_builtin; refine wpList_append_own _ rfl (.tmp 46) (.tmp 52) 59 rfl w1.heap.size 30 jj (.slice none 0 0) 1 24 Tryz.underlying59 HJJ.out HZ0.out HZ1.out HZ2.out rfl (by decide) (.slice a6 N c6) N vs rfl HOA.out ⟨w5.heap.size, 0, none⟩ 1 1 [.slice au (e - b) cu] rfl rfl (ru_new w5 _ _) (by simp [Value.oneCell']) (by unfold maxLen; omega) (by omega) hs6 ?_; intro v7 w7 ho7 hg7 _)
      have hown7 : w7.ownsRow w1.heap.size 30 1 v7 ((Od.rows l od b).length + 1) (vs ++ [.slice au (e - b) cu]) := by rw [HNN.out]; exact ho7
      have HL7 := hide (HV6.out.push (r := Od.Z (Od.pc od (b, e))) (by rw [HRL.out]; exact owns_mono HU6.out hs4) hown7 hg7)
      have K7 := hide (show KO w1 w7 from Below.grown K6.out hg7 K6.out.size (fun j hj => (HOA.out.lt j hj).1))
      rw [<- HR2.out.1] at HL7
      have HRN := hide HR2.out.2
      clear hown7 ho7 hg7 HU6 HV6 HOA hs6
      go_wp2
      go_roundw
      case rel => exact ⟨_, e, rfl, by first | rfl | go_num, hem, HRN, hide ⟨_, HL7.out⟩, K7⟩
      case measure => simp [intOf]; omega
    ·obtain rfl : m = e := by omega
     have hne2 : ¬ (m : Int) < (m : Int) := by omega
     have HR2 := hide (hrun.out (.inl HM.out.symm))
     clear hall hrun
     go_wp2_with fail
     go_quiet (fail)
     have K4 := hide (KO.on hkw.out (below_drewN wr nq))
     have hlr4 : ∃ vs, LR w1.heap.size (wr.drewN nq) va vs (Od.rows l od b) := by obtain ⟨vs, hvs⟩ := hlr.out; exact ⟨vs, hvs.below (below_drewN wr nq)⟩
     clear hlr hkw
     generalize wr.drewN nq = w4 at *
     obtain ⟨vs, hvs⟩ := hlr4
     have hNb : (Od.rows l od b).length + 1 <= K := by
      have h1 := HMO.out m (Nat.le_refl _)
      rw [HR2.out.1, List.length_append, List.length_singleton] at h1
      exact h1
     obtain ⟨N, hN⟩ : ∃ N, (Od.rows l od b).length = N := ⟨_, rfl⟩
     have hoa := hvs.oa
     rw [hN] at hoa hNb
     obtain ⟨a6, c6, hva, _⟩ := owns_form hoa
     subst hva
     have hP4 := HP.out.below K4.out
     have hple := hP4.le
     have hmid := fun W => run_mid (P := Tryz.prog) Tryz.underlying30 HII.out cellsInt ap m cp b m (by omega) (by omega) W
     have HCL := hide (clone_any (tl ap cp b) (m - b) (cp - b) _ w4 ((hP4.drop (j := b) (by omega)).take (e := m - b) (by omega)) (by omega))
     have hpc : ((Od.ON l).drop b).take (m - b) = Od.Z (Od.pc od (b, m)) := by rw [HPC.out b m, HZ.out]
     rw [hpc] at HCL
     have hrl : (Od.Z (Od.pc od (b, m))).length = m - b := by rw [<- hpc, List.length_take, List.length_drop, HON.out, HM.out]; omega
     have HVS := hide hvs
     have HRL := hide hrl
     have HNN := hide hN
     clear hvs hoa hP4 hpc hrl hN
     go_wp2_with fail
     refine HCL.out.mono ?_
     rintro e5 w5 ⟨u, rfl, hu5, hk5⟩
     obtain ⟨au, cu, hu, _⟩ := owns_form hu5
     subst hu
     have hs4 := K4.out.size
     have HU6 := hide ((owns_below hu5 (KO.alloc (KO.refl w5) (.cells #[.slice au (m - b) cu] 30))))
     have HV6 := hide ((HVS.out.below hk5).below (KO.alloc (KO.refl w5) (.cells #[.slice au (m - b) cu] 30)))
     have K6 := hide (KO.on K4.out (KO.on hk5 (KO.alloc (KO.refl w5) (.cells #[.slice au (m - b) cu] 30))))
     have HOA := hide (show (w5.alloc (.cells #[.slice au (m - b) cu] 30)).ownsRow w1.heap.size 30 1 (.slice a6 N c6) N vs from by have := HV6.out.oa; rw [HNN.out] at this; exact this)
     have hs6 : w1.heap.size <= (w5.alloc (.cells #[.slice au (m - b) cu] 30)).heap.size := K6.out.size
     clear hu5 hk5 HCL HVS
     go_wp2_with (at_builtin; refine wpList_append_own _ rfl (.tmp 46) (.tmp 52) 59 rfl w1.heap.size 30 jj (.slice none 0 0) 1 24 Tryz.underlying59 HJJ.out HZ0.out HZ1.out HZ2.out rfl (by decide) (.slice a6 N c6) N vs rfl HOA.out ⟨w5.heap.size, 0, none⟩ 1 1 [.slice au (m - b) cu] rfl rfl (ru_new w5 _ _) (by simp [Value.oneCell']) (by unfold maxLen; omega) (by omega) hs6 ?_; intro v7 w7 ho7 hg7 _)
     have hown7 : w7.ownsRow w1.heap.size 30 1 v7 ((Od.rows l od b).length + 1) (vs ++ [.slice au (m - b) cu]) := by rw [HNN.out]; exact ho7
     have HL7 := hide (HV6.out.push (r := Od.Z (Od.pc od (b, m))) (by rw [HRL.out]; exact owns_mono HU6.out hs4) hown7 hg7)
     have K7 := hide (show KO w1 w7 from Below.grown K6.out hg7 K6.out.size (fun j hj => (HOA.out.lt j hj).1))
     rw [<- HR2.out.1] at HL7
     have HRN := hide HR2.out.2
     clear hown7 ho7 hg7 HU6 HV6 HOA hs6
     go_wp2
     go_roundw
     case rel => exact ⟨_, m, rfl, by first | rfl | go_num, hem, HRN, hide ⟨_, HL7.out⟩, K7⟩
     case measure => simp [intOf]; omega
  ·obtain rfl : m = b := by omega
   have hne : ¬ (m : Int) < (m : Int) := by omega
   obtain ⟨vs, hvs⟩ := hlr.out
   obtain ⟨a6, c6, hva, hrd⟩ := hvs.read
   subst hva
   have HRD := hide (show RL wr a6 c6 (Od.RR l) from by rw [HRR.out]; exact hrd)
   have hlen : (Od.rows l od m).length = (Od.RR l).length := by rw [HRR.out]
   obtain ⟨N, hN⟩ : ∃ N, (Od.RR l).length = N := ⟨_, rfl⟩
   rw [hlen, hN]
   have HN := hide hN
   clear hvs hrd hlr hlen hN
   go_wp2
   go_ret2
   refine ⟨a6, c6, ?_, HRD.out, KO.on K1.out hkw.out⟩
   rw [HN.out]
   rfl
def RA (l : List Int) (R : List (List Int)) (E : Int) : Prop := (Od.Fo l /\ R = Od.RR l /\ E = 0) \/ (¬ Od.Fo l /\ R = [] /\ E = 2)
end Go.Proofs.YtfcoebbblfcdoaaGreatDoor

/- Glyph and Show: the program's, by contract. -/
namespace Go.Proofs.YtfcoebbblfcdoaaGreatDoor
open Go.RowKit
set_option linter.unusedVariables false
set_option maxHeartbeats 1600000
set_option maxRecDepth 100000
theorem infoRune14 : (Tryz.prog.info? 21).map (fun i => (i.zero, i.size, i.bytes)) = some (some (.int .i32 0), 1, 4) := by kernel_rfl
theorem isOdd_any (lv : Int) (w : World) : Calls Tryz.prog 83 #[.int .i64 lv] w fun e w' => e = .returned (.bool (decide (0 <= lv /\ lv % 2 = 1))) /\ w = w' := by
 by_cases ho : 0 <= lv /\ lv % 2 = 1
 ·have ht : lv.tmod 2 = 1 := by rw [Int.tmod_eq_emod_of_nonneg ho.1]; exact ho.2
  rw [decide_eq_true ho]
  clear ho
  generalize hx : lv.tmod 2 = x at ht
  subst ht
  go_enter Tryz.func83, Tryz.ntmps83
  go_wp2
  go_ret
  exact ⟨rfl, rfl⟩
 ·have ht : ¬ lv.tmod 2 = 1 := by
   intro q
   by_cases h0 : 0 <= lv
   ·rw [Int.tmod_eq_emod_of_nonneg h0] at q
    exact ho ⟨h0, q⟩
   ·have h1 := Int.neg_tmod (-lv) 2
    rw [Int.neg_neg, Int.tmod_eq_emod_of_nonneg (a := -lv) (by omega)] at h1
    omega
  have htb : (lv.tmod 2 == 1) = false := by simpa using ht
  rw [decide_eq_false ho]
  clear ho
  generalize hx : lv.tmod 2 = x at ht htb
  go_enter Tryz.func83, Tryz.ntmps83
  go_wp2
  go_ret
  exact ⟨rfl, rfl⟩
theorem glyph_any (r lv : Int) (w : World) (hr : (Lit.int .i32 r).wf = true) (hm : Marks w) :
  Calls Tryz.prog 48 #[.int .i32 r, .int .i64 lv] w fun e w' => e = .returned (.int .i32 (Mi.gl r lv)) /\ KO w w' := by
 have HO := hide (isOdd_any lv w)
 have HM := hide (mirror_any r w hr hm)
 by_cases ho : 0 <= lv /\ lv % 2 = 1
 ·rw [decide_eq_true ho] at HO
  cases hb : (Ucd.mir r).2 with
  | true =>
   rw [hb, <- Mi.gl_yes ho hb] at HM
   clear ho hb hr hm
   generalize Mi.gl r lv = g at *
   go_enter Tryz.func48, Tryz.ntmps48
   go_wp2_with (first
    | (go_at_call 83; refine HO.out.mono ?_; rintro e w1 ⟨rfl, rfl⟩)
    | (go_at_call 84; refine HM.out.mono ?_; rintro e w1 ⟨rfl, hk1⟩; have HK := hide hk1; clear hk1))
   go_ret
   exact ⟨rfl, HK.out⟩
  | false =>
   rw [hb] at HM
   rw [Mi.gl_no hb]
   clear ho hb hr hm
   generalize (Ucd.mir r).1 = g at *
   go_enter Tryz.func48, Tryz.ntmps48
   go_wp2_with (first
    | (go_at_call 83; refine HO.out.mono ?_; rintro e w1 ⟨rfl, rfl⟩)
    | (go_at_call 84; refine HM.out.mono ?_; rintro e w1 ⟨rfl, hk1⟩; have HK := hide hk1; clear hk1))
   go_ret
   exact ⟨rfl, HK.out⟩
 ·rw [decide_eq_false ho] at HO
  rw [Mi.gl_even ho]
  clear ho hr hm HM
  go_enter Tryz.func48, Tryz.ntmps48
  go_wp2_with (go_at_call 83; refine HO.out.mono ?_; rintro e w1 ⟨rfl, rfl⟩)
  go_ret
  exact ⟨rfl, KO.refl _⟩
namespace Mi
theorem flat_next (R : List (List Int)) {j : Nat} (h : j < R.length) : (R.take (j + 1)).flatten = (R.take j).flatten ++ R.getD j [] := by
 rw [List.take_succ_eq_append_getElem h, List.flatten_append]
 simp [List.getD, h]
theorem flat_rest (R : List (List Int)) (j : Nat) : R.flatten = (R.take j).flatten ++ (R.drop j).flatten := by rw [<- List.flatten_append, List.take_append_drop]
theorem app_at (A Q B : List Int) {i : Nat} (hi : i < Q.length) : (A ++ (Q ++ B)).getD (A.length + i) 0 = Q.getD i 0 := by simp [List.getD, List.getElem?_append_right, List.getElem?_append_left hi]
theorem flat_at {R : List (List Int)} {j i : Nat} (h : j < R.length) (hi : i < (R.getD j []).length) : R.flatten.getD ((R.take j).flatten.length + i) 0 = (R.getD j []).getD i 0 := by
 rw [flat_rest R (j + 1), flat_next R h, List.append_assoc, app_at _ _ _ hi]
theorem flat_le (R : List (List Int)) (j : Nat) : (R.take j).flatten.length <= R.flatten.length := by
 rw [flat_rest R j, List.length_append]
 omega
theorem piece_at {l lv : List Int} {R : List (List Int)} (hR : R.flatten = Od.ON lv) (hf : Od.Fo lv) {j i : Nat} (h : j < R.length) (hi : i < (R.getD j []).length) :
  ∃ p : Nat, p < lv.length /\ (R.getD j []).getD i 0 = (p : Int) /\ (R.take j).flatten.length + i < (SW l lv).length /\ (SW l lv).take ((R.take j).flatten.length + i + 1) = (SW l lv).take ((R.take j).flatten.length + i) ++ [gl (l.getD p 0) (lv.getD p 0)] := by
 have h1 := flat_le R (j + 1)
 rw [flat_next R h, List.length_append, hR, Od.ON_len] at h1
 have hk : (R.take j).flatten.length + i < (Od.OD lv).length := by omega
 refine ⟨(Od.OD lv).getD ((R.take j).flatten.length + i) 0, Od.OD_lt hf (Od.OD_in hk), ?_, by rw [SW_len]; exact hk, SW_next hk⟩
 rw [<- flat_at h hi, hR, Od.ON_at hk]
end Mi
structure GW (w : World) (n k : Nat) (S : List Int) (wr : World) : Prop where
 own : wr.ownsRow w.heap.size 21 1 (.slice (some ⟨w.heap.size, 0, none⟩) k n) k ((S.take k).map (Value.int .i32))
 bel : KO w wr
theorem glyphs_any (al av ap : Option Addr) (n cl cv cp : Nat) (l lv : List Int) (R : List (List Int)) (w : World) (hl : Row .i32 w al n cl l) (hv : Row .i64 w av n cv lv) (hp : RL w ap cp R) (hR : R.flatten = Od.ON lv) (hf : Od.Fo lv) (hw : ∀ x ∈ l, (Lit.int .i32 x).wf = true) (hn : n * 4 <= 281474976710656) (hm : Marks w) :
  Calls Tryz.prog 24 #[.slice al n cl, .slice av n cv, .slice ap R.length cp] w fun e w' => ∃ v, e = .returned v /\ w'.ownsRow w.heap.size 21 1 v (Mi.SW l lv).length ((Mi.SW l lv).map (Value.int .i32)) /\ KO w w' := by
 have HP := hide (fun (j i : Nat) (h : j < R.length) (hi : i < (R.getD j []).length) => Mi.piece_at (l := l) hR hf h hi)
 have HFL : Hid ((R.take R.length).flatten.length = (Mi.SW l lv).length) := hide (by rw [List.take_length, hR, Od.ON_len, Mi.SW_len])
 have HFN := hide (fun (j : Nat) (h : j < R.length) => show (R.take (j + 1)).flatten.length = (R.take j).flatten.length + (R.getD j []).length from by rw [Mi.flat_next R h, List.length_append])
 have HSn : Hid ((Mi.SW l lv).length <= n) := hide (by rw [Mi.SW_len]; have := Od.K_le lv; rw [Od.OD_len]; rw [hv.len] at this; exact this)
 have HWF := hide (fun (p : Nat) (hp : p < l.length) => hw (l.getD p 0) (by simp [List.getD, hp]))
 have HL := hide hl
 have HV := hide hv
 have HLl := hide hl.len
 have HVl := hide hv.len
 have HR := hide hp
 have HMK := hide hm
 have hle := hp.le
 have hmax := hp.max
 obtain ⟨ii, hii, hy0, hy1, hy2⟩ := info_parts infoRune14
 have HII : Hid (Tryz.prog.info? 21 = some ii) := hii
 have HY0 := hide hy0
 have HY1 := hide hy1
 have HY2 := hide hy2
 clear hl hv hp hR hf hw hm hii hy0 hy1 hy2
 unfold maxLen at hmax
 obtain ⟨S, hS⟩ : ∃ S, Mi.SW l lv = S := ⟨_, rfl⟩
 rw [hS] at HFL HSn ⊢
 simp only [hS] at HP
 obtain ⟨m, hmS⟩ : ∃ m, S.length = m := ⟨_, rfl⟩
 rw [hmS] at HFL HSn ⊢
 simp only [hmS] at HP
 have HMS := hide hmS
 clear hS hmS
 obtain ⟨N, hN⟩ : ∃ N, R.length = N := ⟨_, rfl⟩
 rw [hN] at hle HFL HFN HP ⊢
 have HN := hide hN
 clear hN
 have hn2 : n <= 70368744177664 := by omega
 go_enter Tryz.func24, Tryz.ntmps24
 go_wp2_with (at_make; refine wpList_make_own _ rfl _ _ 23 rfl w.heap.size 21 ii (.int .i32 0) 1 Tryz.underlying23 HII.out HY0.out HY1.out _ _ _ n rfl rfl rfl ?b2 ?b3 (Nat.le_refl _) ?_)
 case b2 => rw [HY2.out]; omega
 case b3 => unfold maxLen; omega
 intro w1 hown hgrow
 have hbel := (Below.refl w.heap.size w).grown hgrow (Nat.le_refl _) (fun _ h => by cases h)
 have HO : Hid (GW w n 0 S w1) := hide ⟨by simpa using hown, hbel⟩
 clear hown hgrow hbel
 go_wp2
 go_loopw [7, 9, 11, 17] (fun s7 s9 s11 s17 W => ∃ j k : Nat, s17 = .int .i64 (j : Int) /\ j <= N /\ s7 = .slice (some ⟨w.heap.size, 0, none⟩) (k : Nat) n /\ Hid (k = (R.take j).flatten.length) /\ Hid (GW w n k S W)) (fun _ _ _ s17 _ => N - (intOf s17).toNat)
 case atStart => exact ⟨0, 0, rfl, Nat.zero_le _, rfl, hide rfl, HO⟩
 case round =>
  obtain ⟨j, k, rfl, hj, rfl, hk, hmm⟩ := hrel
  by_cases hlt : j < N
  ·have hin : (j : Int) < (N : Int) := by omega
   obtain ⟨b3, o3, x3, y3, e3, hb3, c3j, r3⟩ := HR.out.at' j (by rw [HN.out]; exact hlt)
   subst e3
   have c3j := (Below.cell hmm.out.bel (by exact hb3)).trans c3j
   have HPJ := hide (fun (i : Nat) (hi : i < (R.getD j []).length) => HP.out j i hlt hi)
   have HFJ := hide (HFN.out j hlt)
   have R3 := hide r3
   have hq3 := r3.le
   have hq4 := r3.max
   unfold maxLen at hq4
   clear r3
   generalize R.getD j [] = Q at *
   obtain ⟨q, hq⟩ : ∃ q, Q.length = q := ⟨_, rfl⟩
   rw [hq] at HPJ HFJ R3 hq3 c3j
   have HQ := hide hq
   clear hq
   rw [<- hk.out] at HPJ HFJ
   go_wp2
   go_loopw [7, 11, 23] (fun s7 s11 s23 W => ∃ i : Nat, s23 = .int .i64 (i : Int) /\ i <= q /\ s7 = .slice (some ⟨w.heap.size, 0, none⟩) (k + i : Nat) n /\ Hid (GW w n (k + i) S W)) (fun _ _ s23 _ => q - (intOf s23).toNat)
   case atStart => exact ⟨0, rfl, Nat.zero_le _, rfl, hmm⟩
   case round =>
    clear hmm
    obtain ⟨i, rfl, hi, rfl, hmm⟩ := hrel
    by_cases hlt2 : i < q
    ·have hin2 : (i : Int) < (q : Int) := by omega
     obtain ⟨p, hp1, hp2, hp3, hp4⟩ := HPJ.out i hlt2
     rw [HVl.out] at hp1
     obtain ⟨bx, ox, ex, hbx, hcx⟩ := R3.out.cells (by omega)
     subst ex
     have c5 := (Below.cell hmm.out.bel (by exact hbx)).trans (hcx i (by rw [HQ.out]; exact hlt2))
     rw [hp2] at c5
     obtain ⟨bl, ol, el, hbl, hcl⟩ := HL.out.cells (by omega)
     subst el
     obtain ⟨bv, ov, ev, hbv, hcv⟩ := HV.out.cells (by omega)
     subst ev
     have hpn : (p : Int) < (n : Int) := by omega
     have cl0 := hcl p (by rw [HLl.out]; exact hp1)
     have cv0 := hcv p (by rw [HVl.out]; exact hp1)
     have hcL : ∀ W, KO w W -> W.cell? ⟨bl, ol + p, none⟩ = some (.int .i32 (l.getD p 0)) := fun W hk => (Below.cell hk (by exact hbl)).trans cl0
     have hcV : ∀ W, KO w W -> W.cell? ⟨bv, ov + p, none⟩ = some (.int .i64 (lv.getD p 0)) := fun W hk => (Below.cell hk (by exact hbv)).trans cv0
     have hKd : KO w wr.drew := KO.drew hmm.out.bel
     have HG := hide (glyph_any (l.getD p 0) (lv.getD p 0) wr.drew (HWF.out p (by rw [HLl.out]; exact hp1)) (HMK.out.below hKd))
     have HP4 := hide hp4
     have hkn : k + i + 1 <= n := by have := HSn.out; omega
     have hK0 : KO w wr := hmm.out.bel
     clear hcx hcl hcv cl0 cv0 hp2 hp3 hp4
     generalize Mi.gl (l.getD p 0) (lv.getD p 0) = g at *
     generalize l.getD p 0 = x at *
     generalize lv.getD p 0 = y at *
     go_wp2
     refine wp_region_noPanic ?_
     go_region_held_law (fun w' => KO w w') (first | assumption | exact KO.alloc (by assumption) _)
      (first
       | (go_at_call 48; refine HG.out.mono ?_; rintro e w5 ⟨rfl, hk5⟩; have hk5' : KO w w5 := KO.on hKd hk5)
       | (refine step_append_spare _ rfl (.tmp 27) (.tmp 37) 23 rfl w.heap.size 21 ii Tryz.underlying23 HII.out HY1.out w.heap.size (k + i) n _ rfl ((owns_below (World.ownsRow.drew hmm.out.own) hk5).alloc _) .i32 _ 1 1 [g] rfl (row_lit .i32 w5 [g] 21 (by unfold maxLen; simp)) (by omega) ?_; intro w6 ho6 hb6; have hk6 : KO w w6 := Below.trans (KO.alloc hk5' _) hb6))
     all_goals (
      refine NoPanic.normal ?_
      go_simp
      have HM6 := hide (show GW w n (k + i + 1) S w6 from ⟨by rw [HP4.out, List.map_append]; exact ho6, hk6⟩)
      clear ho6 hb6 hk6 hk5 hk5' hKd hK0 hcL hcV c5
      go_wp2
      go_roundw
      case rel => exact ⟨i + 1, by go_num, by omega, by rw [Nat.add_assoc], HM6⟩
      case measure => simp [intOf]; omega)
    ·obtain rfl : q = i := by omega
     have hne2 : ¬ (q : Int) < (q : Int) := by omega
     go_wp2
     go_roundw
     case rel => exact ⟨j + 1, k + q, by go_num, by omega, rfl, hide HFJ.out.symm, hmm⟩
     case measure => simp [intOf]; omega
  ·obtain rfl : N = j := by omega
   have hne : ¬ (N : Int) < (N : Int) := by omega
   have HKM : Hid (k = m) := hide (by rw [hk.out, HFL.out])
   have HM := hide (show wr.ownsRow w.heap.size 21 1 (.slice (some ⟨w.heap.size, 0, none⟩) k n) m (S.map (Value.int .i32)) from by
    have := hmm.out.own
    rw [HKM.out, <- HMS.out, List.take_length] at this
    rw [HKM.out, <- HMS.out]
    exact this)
   have HB := hide hmm.out.bel
   clear hmm hk
   go_wp2
   go_ret
   exact ⟨_, rfl, HM.out, HB.out⟩
end Go.Proofs.YtfcoebbblfcdoaaGreatDoor

/- Like lists of runes. -/
namespace Go.Proofs.YtfcoebbblfcdoaaGreatDoor
open Go.RowKit
set_option linter.unusedVariables false
set_option maxHeartbeats 1000000
set_option maxRecDepth 100000
theorem runes_yes (a0 a1 : Option Addr) (n c0 c1 : Nat) (l : List Int) (w : World) (h0 : Row .i32 w a0 n c0 l) (h1 : Row .i32 w a1 n c1 l) :
  Calls Tryz.prog 6 #[.slice a0 n c0, .slice a1 n c1] w fun e w' => e = .returned (.bool true) /\ ∃ k, w' = w.drewN k := by
 have hx := h0.le
 have hm := h0.max
 unfold maxLen at hm
 have hl := h0.len
 have H0 := hide h0
 have H1 := hide h1
 have HL := hide hl
 clear h0 h1 hl
 go_enter Tryz.func6, Tryz.ntmps6
 go_wp2
 go_loopw [5] (fun i wr => ∃ k nq : Nat, k <= n /\ i = .int .i64 k /\ wr = w.drewN nq) (fun i _ => n - (intOf i).toNat)
 case atStart => exact ⟨0, 0, Nat.zero_le _, rfl, rfl⟩
 case round =>
  obtain ⟨k, nq, hk, rfl, rfl⟩ := hrel
  by_cases hlt : k < n
  ·obtain ⟨b0, o0, rfl, _, hc0⟩ := H0.out.cells (by omega)
   obtain ⟨b1, o1, rfl, _, hc1⟩ := H1.out.cells (by omega)
   have g0 := hc0 k (by have := HL.out; omega)
   have g1 := hc1 k (by have := HL.out; omega)
   clear hc0 hc1
   generalize l.getD k 0 = x at *
   have hlt' : (k : Int) < (n : Int) := by omega
   go_wp2
   go_quiet (fail)
   go_wp2
   go_roundw
   case rel => exact ⟨k + 1, _, by omega, by go_num, by first | rfl | exact World.drewN_drewN _ _ _⟩
   case measure => simp [intOf]; omega
  ·go_wp2
   go_ret
   exact ⟨rfl, _, rfl⟩
end Go.Proofs.YtfcoebbblfcdoaaGreatDoor

/- Show, by contract; the chapter's examples. -/
namespace Go.Proofs.YtfcoebbblfcdoaaGreatDoor
open Go.RowKit
set_option linter.unusedVariables false
set_option maxHeartbeats 1600000
set_option maxRecDepth 100000
theorem row_any32 {w : World} {base n : Nat} {v : Value} {zs : List Int} (h : w.ownsRow base 21 1 v n (zs.map (Value.int .i32))) : ∃ a c, v = .slice a zs.length c /\ Row .i32 w a zs.length c zs := by
 have hl : zs.length = n := by have := h.1; simpa using this
 subst hl
 exact row_of_owns h
def SHA (l lv S : List Int) (E : Int) : Prop := (l.length = lv.length /\ Od.Fo lv /\ S = Mi.SW l lv /\ E = 0) \/ (¬ (l.length = lv.length /\ Od.Fo lv) /\ S = [] /\ E = 2)
theorem show_any (al av : Option Addr) (n m cl cv : Nat) (l lv : List Int) (w : World) (hl : Row .i32 w al n cl l) (hv : Row .i64 w av m cv lv) (hw : ∀ x ∈ l, (Lit.int .i32 x).wf = true) (hn : n * 4 <= 281474976710656) (hm : m * 8 <= 281474976702464) (K : Nat) (hK : (Od.RR lv).length <= K) (hKN : K * 24 <= 140737488355328) (hM : Marks w) (S : List Int) (E : Int) (hA : SHA l lv S E) :
  Calls Tryz.prog 10 #[.slice al n cl, .slice av m cv] w fun e w' => ∃ a c, e = .returned (.tuple #[.slice a S.length c, .int .i64 E]) /\ Row .i32 w' a S.length c S /\ KO w w' := by
 have hll := hl.len
 have hvl := hv.len
 by_cases hnm : n = m
 ·subst hnm
  have hnn : ((n : Int) != (n : Int)) = false := by simp
  by_cases hf : Od.Fo lv
  ·rcases hA with ⟨_, _, hS, hE⟩ | ⟨h, _⟩
   ·subst hE
    have HR := hide (runs_ok av n cv lv w hv hf hm K hK hKN)
    have HG := hide (fun (a : Option Addr) (c : Nat) (w' : World) (hp : RL w' a c (Od.RR lv)) (hk : KO w w') => glyphs_any al av a n cl cv c l lv (Od.RR lv) w' (hl.below hk) (hv.below hk) hp (Od.RR_flat lv) hf hw hn (hM.below hk))
    rw [<- hS] at HG
    clear hS hl hv hw hM hf hll hvl hK
    generalize Od.RR lv = R at *
    obtain ⟨N, hN⟩ : ∃ N, R.length = N := ⟨_, rfl⟩
    rw [hN] at HR HG
    clear hN
    go_enter Tryz.func10, Tryz.ntmps10
    go_wp2_with (first
     | (go_at_call 23; refine HR.out.mono ?_; rintro e w1 ⟨a, c, rfl, hr1, hk1⟩; have HG1 := hide (HG.out a c w1 hr1 hk1); have HK1 := hide hk1; clear hr1 hk1)
     | (go_at_call 24; refine HG1.out.mono ?_; rintro e w2 ⟨v, rfl, ho2, hk2⟩; obtain ⟨a2, c2, ev, hr2⟩ := row_any32 ho2; subst ev; have HR2 := hide hr2; have HK2 := hide (KO.on HK1.out hk2); clear ho2 hk2 hr2))
    go_ret2
    exact ⟨a2, c2, rfl, HR2.out, HK2.out⟩
   ·exact absurd ⟨by rw [hll, hvl], hf⟩ h
  ·rcases hA with ⟨_, h, _⟩ | ⟨_, rfl, rfl⟩
   ·exact absurd h hf
   ·have HR := hide (runs_bad av n cv lv w hv hf)
    clear hl hv hw hM hf hll hvl
    go_enter Tryz.func10, Tryz.ntmps10
    go_wp2_with (go_at_call 23; refine HR.out.mono ?_; rintro e w1 ⟨rfl, rfl⟩)
    go_ret2
    exact ⟨none, 0, rfl, row_nil _ _, KO.refl _⟩
 ·have hnn : ((n : Int) != (m : Int)) = true := bne_iff_ne.2 (by omega)
  rcases hA with ⟨h, _⟩ | ⟨_, rfl, rfl⟩
  ·exact absurd (by rw [<- hll, <- hvl]; exact h) hnm
  ·clear hl hv hw hM hll hvl
   go_enter Tryz.func10, Tryz.ntmps10
   go_wp2
   go_ret2
   exact ⟨none, 0, rfl, row_nil _ _, KO.refl _⟩
theorem RR_le (lv : List Int) : (Od.RR lv).length <= lv.length := Nat.le_trans (Od.rows_le lv _ _) (by rw [Od.OD_len]; exact Od.K_le lv)
theorem SW_wf {l lv : List Int} (hf : Od.Fo lv) (hl : l.length = lv.length) (hw : ∀ x ∈ l, (Lit.int .i32 x).wf = true) : ∀ x ∈ Mi.SW l lv, (Lit.int .i32 x).wf = true := by
 intro x hx
 unfold Mi.SW at hx
 obtain ⟨i, hi, rfl⟩ := List.mem_map.1 hx
 have h1 := Od.OD_lt hf hi
 have h2 := bounds_i32 (hw (l.getD i 0) (by simp [List.getD, show i < l.length by omega]))
 exact WalkArith.wf_i32 (Mi.gl_ok (by omega))
end Go.Proofs.YtfcoebbblfcdoaaGreatDoor
