import Derived.Test.YtmdmehopefgndaaGreatDoorZ30
import Derived.Test.YtmdmehopefgndaaGreatDoorZ29
/- The visual order of any levels. -/
namespace Go.Proofs.YtmdmehopefgndaaGreatDoor
open Go.RowKit
set_option linter.unusedVariables false
set_option maxHeartbeats 1000000
set_option maxRecDepth 100000
namespace Od
theorem turn_len (lv : List Int) (k : Int) (P : List Nat) : (turn lv k P).length = P.length := by
  have := (fl_perm (fun x => decide (k ≤ lv.getD x 0)) P []).length_eq
  simpa [turn] using this
/-- Where the turning ends, the order stands. -/
theorem TT.end' {l : List Int} {a b lvl : Int} (h : TT l a b) (hlo : lvl < a) (hor : lvl = b ∨ a - 1 ≤ lvl) {Q : List Nat} (hQ : By l lvl Q) (hf : Fo l) : Q = OD l := by
  have hodd : ∀ z, sn l z = true → l.getD z 0 ≤ lvl → l.getD z 0 % 2 = 0 := fun z hz hle => by
    have h0 := (sn_at hz).2
    by_cases hp : l.getD z 0 % 2 = 1
    · have := h.low z hz hp
      omega
    · omega
  have hev : lvl % 2 = 0 := by
    rcases hor with rfl | hor
    · rcases h.bis with h0 | ⟨z, hz, e⟩
      · omega
      · have := hodd z hz (by omega)
        omega
    · have := h.odd
      omega
  exact Vis.eq (vis_of hev hQ hodd) (OD_vis hf)
theorem TT.start {l : List Int} {a b : Int} (h : TT l a b) : By l b (K l) := K_by fun i hi => by
  by_cases h0 : 0 ≤ l.getD i 0
  · exact h.high i (sn_of h0 hi)
  · have := h.b0
    omega
theorem K_lt {l : List Int} {x : Nat} (hx : x ∈ K l) : x < l.length := (sn_at (List.mem_filter.1 hx).2).1
theorem K_le (l : List Int) : (K l).length ≤ l.length := KP_le l l.length
end Od
theorem order_bad (ao : Option Addr) (n cap : Nat) (l : List Int) (w : World) (h : Row .i64 w ao n cap l) (hf : ¬ Od.Fo l) :
    Calls Tryz.prog 9 #[.slice ao n cap] w fun e w' => e = .returned (.tuple #[.slice none 0 0, .int .i64 2]) ∧ w = w' := by
  have HA := hide (areLevels_any ao n cap l w h)
  rw [decide_eq_false hf] at HA
  clear h hf
  go_enter Tryz.func9, Tryz.ntmps9
  go_wp2_with (go_at_call 21; refine HA.out.mono ?_; rintro e w' ⟨rfl, rfl⟩)
  go_ret2
  exact ⟨rfl, rfl⟩
theorem order_ok (ao : Option Addr) (n cap : Nat) (l : List Int) (w : World) (h : Row .i64 w ao n cap l) (hf : Od.Fo l) (hn : n * 8 ≤ 281474976702464) :
    Calls Tryz.prog 9 #[.slice ao n cap] w fun e w' => ∃ v, e = .returned (.tuple #[v, .int .i64 0]) ∧ w'.ownsRow w.heap.size 3 1 v (Od.OD l).length ((Od.ON l).map (Value.int .i64)) ∧ KO w w' := by
  have HA := hide (areLevels_any ao n cap l w h)
  rw [decide_eq_true hf] at HA
  have HS := hide (seen_any ao n cap l w h hf hn)
  have HT := hide (fun w' (k : KO w w') => turns_any ao n cap l w' (h.below k) hf)
  have HF := hide hf
  have HR := hide h
  have HL := hide h.len
  have HKn : Hid ((Od.K l).length ≤ 35184372087808) := hide (by have := Od.K_le l; rw [h.len] at this; omega)
  have HKl := hide (fun x (hx : x ∈ Od.K l) => Od.K_lt hx)
  clear h hf
  go_enter Tryz.func9, Tryz.ntmps9
  go_wp2_with (first
    | (go_at_call 21; refine HA.out.mono ?_; rintro e w' ⟨rfl, rfl⟩)
    | (go_at_call 22; refine HS.out.mono ?_; rintro e w1 ⟨v, rfl, ho1, hk1⟩; have HO1 := hide ho1; have HK1 := hide hk1; have HT1 := hide (HT.out _ hk1); clear ho1 hk1)
    | (go_at_call 23; refine HT1.out.mono ?_; rintro e w2 ⟨a, b, rfl, ht, hk2⟩; have HO2 := hide (owns_below HO1.out hk2); have HK2 := hide (KO.on HK1.out hk2); have HTT := hide ht; have hb0 := ht.b0; have ha1 := ht.a1; have hb1 := ht.b1; clear hk2 ht))
  go_loopw [7] (fun s7 W => ∃ (lvl : Int) (Q : List Nat), s7 = .int .i64 lvl ∧ lvl ≤ b ∧ Hid (lvl = b ∨ a - 1 ≤ lvl) ∧ Hid (Od.By l lvl Q) ∧ Hid (Q.length = (Od.K l).length) ∧ Hid (W.ownsRow w.heap.size 3 1 v (Od.K l).length ((Od.Z Q).map (Value.int .i64))) ∧ Hid (KO w W)) (fun s7 _ => (intOf s7).toNat)
  case atStart => exact ⟨b, Od.K l, rfl, by omega, hide (.inl rfl), hide HTT.out.start, hide rfl, HO2, HK2⟩
  case round =>
    obtain ⟨lvl, Q, rfl, hle, hor, hby, hlen, ho, hk⟩ := hrel
    by_cases hge : a ≤ lvl
    · have hmem : ∀ x ∈ Q, x < n := fun x hx => by
        have := (Od.sn_at ((hby.out.mem x).1 hx)).1
        rw [HL.out] at this
        exact this
      have HC := hide (oturn_any _ n cap ao v l lvl Q w wr HR.out hk.out ho.out hmem HKn.out)
      have HBY := hide hby.out.turn
      have HLEN : Hid ((Od.turn l lvl Q).length = (Od.K l).length) := hide (by rw [Od.turn_len]; exact hlen.out)
      clear hmem hby hlen ho hk hor
      go_wp2_with (go_at_call 24; refine HC.out.mono ?_; rintro e3 w3 ⟨rfl, hk3, ho3⟩)
      have HK3 := hide hk3
      have HO3 := hide ho3
      clear hk3 ho3
      go_wp2
      go_roundw
      case rel => exact ⟨lvl - 1, _, by first | rfl | go_num, by omega, hide (.inr (by omega)), HBY, HLEN, HO3, HK3⟩
      case measure => simp [intOf]; omega
    · have HQ : Hid (Q = Od.OD l) := hide (HTT.out.end' (by omega) hor.out hby.out HF.out)
      have HO3 : Hid (wr.ownsRow w.heap.size 3 1 v (Od.OD l).length ((Od.ON l).map (Value.int .i64))) := hide (by
        have := ho.out
        rw [← hlen.out, HQ.out] at this
        exact this)
      clear ho hlen hby hor
      go_wp2
      go_ret2
      exact ⟨_, rfl, HO3.out, hk.out⟩
end Go.Proofs.YtmdmehopefgndaaGreatDoor

/- What Order answers, as a row. -/
namespace Go.Proofs.YtmdmehopefgndaaGreatDoor
open Go.RowKit
set_option linter.unusedVariables false
set_option maxHeartbeats 1000000
set_option maxRecDepth 100000
theorem row_any {w : World} {base n : Nat} {v : Value} {zs : List Int} (h : w.ownsRow base 3 1 v n (zs.map (Value.int .i64))) : ∃ a c, v = .slice a zs.length c ∧ Row .i64 w a zs.length c zs := by
  have hl : zs.length = n := by have := h.1; simpa using this
  subst hl
  exact row_of_owns h
/-- What Order answers. -/
def OA (l L : List Int) (E : Int) : Prop := (Od.Fo l ∧ L = Od.ON l ∧ E = 0) ∨ (¬ Od.Fo l ∧ L = [] ∧ E = 2)
theorem OA_some (l : List Int) : ∃ L E, OA l L E := by
  by_cases h : Od.Fo l
  · exact ⟨_, _, .inl ⟨h, rfl, rfl⟩⟩
  · exact ⟨_, _, .inr ⟨h, rfl, rfl⟩⟩
theorem order_any (ao : Option Addr) (n cap : Nat) (l : List Int) (w : World) (h : Row .i64 w ao n cap l) (hn : n * 8 ≤ 281474976702464) (L : List Int) (E : Int) (hA : OA l L E) :
    Calls Tryz.prog 9 #[.slice ao n cap] w fun e w' => ∃ a c, e = .returned (.tuple #[.slice a L.length c, .int .i64 E]) ∧ Row .i64 w' a L.length c L ∧ KO w w' := by
  rcases hA with hA | hA
  · obtain ⟨hf, hL, hE⟩ := hA
    subst hE
    have hO := order_ok ao n cap l w h hf hn
    rw [← hL] at hO
    have hLl : L.length = (Od.OD l).length := by rw [hL]; exact Od.ON_len l
    rw [← hLl] at hO
    clear hL hLl
    refine hO.mono ?_
    rintro e w' ⟨v, e0, ho, hk⟩
    obtain ⟨a, c, e1, hr⟩ := row_any ho
    exact ⟨a, c, by rw [e0, e1], hr, hk⟩
  · obtain ⟨hf, hL, hE⟩ := hA
    subst hE
    subst hL
    refine (order_bad ao n cap l w h hf).mono ?_
    rintro e w' ⟨e0, e1⟩
    exact ⟨none, 0, e0, row_nil _ _, by rw [← e1]; exact KO.refl _⟩
end Go.Proofs.YtmdmehopefgndaaGreatDoor

/- Lists of lists that a call has made and that are read; the program's Runs. -/
namespace Go.Proofs.YtmdmehopefgndaaGreatDoor
open Go.RowKit
set_option linter.unusedVariables false
set_option maxHeartbeats 1600000
set_option maxRecDepth 100000
theorem infoInts13 : (Tryz.prog.info? 27).map (fun i => (i.zero, i.size, i.bytes)) = some (some (.slice none 0 0), 1, 24) := by kernel_rfl
theorem unlike_blocks {w : World} {B B' e e' n m : Nat} {v u : Value} {xs ys : List Value} (h : w.ownsRow B e 1 v n xs) (h' : w.ownsRow B' e' 1 u m ys) (hne : ¬ e = e') : u.ownBlock = none ∨ u.ownBlock ≠ v.ownBlock := by
  rcases h.2 with ⟨rfl, _⟩ | ⟨a, cap, cur, rfl, _, ha, _⟩
  · cases hu : u.ownBlock with
    | none => exact .inl rfl
    | some g => exact .inr (by simp [Value.ownBlock])
  · rcases h'.2 with ⟨rfl, _⟩ | ⟨b, cap', cur', rfl, _, hb, _⟩
    · exact .inl rfl
    · refine .inr fun q => ?_
      simp only [Value.ownBlock, Option.some.injEq] at q
      subst q
      rw [ha] at hb
      simp only [Option.some.injEq, Obj.cells.injEq] at hb
      exact hne hb.2.1
/-- A list of lists as it is read. -/
structure RL (w : World) (ao : Option Addr) (cap : Nat) (rows : List (List Int)) : Prop where
  le : rows.length ≤ cap
  max : cap ≤ maxLen
  at' : ∀ j, j < rows.length → ∃ b off a c, ao = some ⟨b, off, none⟩ ∧ b < w.heap.size ∧ w.cell? ⟨b, off + j, none⟩ = some (.slice a (rows.getD j []).length c) ∧ Row .i64 w a (rows.getD j []).length c (rows.getD j [])
theorem RL.below {w w' : World} {ao : Option Addr} {cap : Nat} {rows : List (List Int)} (h : RL w ao cap rows) (hb : KO w w') : RL w' ao cap rows :=
  ⟨h.le, h.max, fun j hj => by
    obtain ⟨b, off, a, c, e, hlt, hc, hr⟩ := h.at' j hj
    exact ⟨b, off, a, c, e, Nat.lt_of_lt_of_le hlt hb.size, (hb.cell (by exact hlt)).trans hc, hr.below hb⟩⟩
/-- One that the call owns, the lists in it too. -/
structure LR (B : Nat) (w : World) (v : Value) (vs : List Value) (rows : List (List Int)) : Prop where
  oa : w.ownsRow B 27 1 v rows.length vs
  rows : ∀ j, j < rows.length → ∃ u, vs[j]? = some u ∧ w.ownsRow B 3 1 u (rows.getD j []).length ((rows.getD j []).map (Value.int .i64))
theorem LR.begin (B : Nat) (w : World) : LR B w (.slice none 0 0) [] [] := ⟨World.ownsRow_nil _ _ _ _, fun j hj => by simp at hj⟩
theorem LR.below {B : Nat} {w w' : World} {v : Value} {vs : List Value} {rows : List (List Int)} (h : LR B w v vs rows) (hb : KO w w') : LR B w' v vs rows :=
  ⟨owns_below h.oa hb, fun j hj => by obtain ⟨u, h1, h2⟩ := h.rows j hj; exact ⟨u, h1, owns_below h2 hb⟩⟩
theorem LR.push {B : Nat} {w w' : World} {v v' u : Value} {vs : List Value} {rows : List (List Int)} {r : List Int} (h : LR B w v vs rows) (hu : w.ownsRow B 3 1 u r.length (r.map (Value.int .i64))) (ho : w'.ownsRow B 27 1 v' (rows.length + 1) (vs ++ [u])) (hg : w.grownBy w' v.ownBlock) : LR B w' v' (vs ++ [u]) (rows ++ [r]) := by
  have hl : vs.length = rows.length := by have := h.oa.1; simpa using this
  refine ⟨by simpa using ho, fun j hj => ?_⟩
  by_cases hj2 : j < rows.length
  · obtain ⟨x, h1, h2⟩ := h.rows j hj2
    have e : (rows ++ [r]).getD j [] = rows.getD j [] := by simp [List.getD, List.getElem?_append_left hj2]
    rw [e]
    exact ⟨x, by rw [List.getElem?_append_left (by omega)]; exact h1, h2.kept hg (unlike_blocks h.oa h2 (by decide))⟩
  · obtain rfl : j = rows.length := by simp at hj; omega
    have e : (rows ++ [r]).getD rows.length [] = r := by simp [List.getD]
    rw [e]
    exact ⟨u, by rw [← hl]; simp, hu.kept hg (unlike_blocks h.oa hu (by decide))⟩
theorem LR.read {B : Nat} {w : World} {v : Value} {vs : List Value} {rows : List (List Int)} (h : LR B w v vs rows) : ∃ a c, v = .slice a rows.length c ∧ RL w a c rows := by
  have hl : vs.length = rows.length := by have := h.oa.1; simpa using this
  rcases h.oa.2 with ⟨rfl, h0⟩ | ⟨g, cap, cur, rfl, hb, hg, hn, hc, hs, ht⟩
  · exact ⟨none, 0, by rw [h0], ⟨by omega, Nat.zero_le _, fun j hj => by omega⟩⟩
  · refine ⟨_, cap, rfl, ⟨hn, hc, fun j hj => ?_⟩⟩
    obtain ⟨u, h1, h2⟩ := h.rows j hj
    obtain ⟨a, c, rfl, hr⟩ := row_of_owns h2
    refine ⟨g, 0, a, c, rfl, (Array.getElem?_eq_some_iff.1 hg).1, ?_, hr⟩
    rw [Nat.zero_add, h.oa.cellAt j (by omega)]
    exact h1
namespace Od
/-- The runs' lists. -/
def rows (lv : List Int) (l : List Nat) (k : Nat) : List (List Int) := (rn lv l k).1.map fun p => Z (pc l p)
def RR (lv : List Int) : List (List Int) := rows lv (OD lv) (OD lv).length
theorem rows_cut {lv : List Int} {l : List Nat} {b e : Nat} (hbe : b < e) (hel : e ≤ l.length) (hb : (rn lv l b).2 = b) (hsame : ∀ k, b ≤ k → k + 1 < e → lv.getD (l.getD (k + 1) 0) 0 = lv.getD (l.getD k 0) 0) (hend : e = l.length ∨ ¬ lv.getD (l.getD e 0) 0 = lv.getD (l.getD (e - 1) 0) 0) :
    rows lv l e = rows lv l b ++ [Z (pc l (b, e))] ∧ (rn lv l e).2 = e := by
  have key : ∀ d, b + d < e → rn lv l (b + d) = rn lv l b := by
    intro d
    induction d with
    | zero => intro _; rfl
    | succ d ih =>
      intro hd
      rw [show b + (d + 1) = (b + d) + 1 by omega, rn_on, ih (by omega)]
      rintro (q | q)
      · omega
      · exact q (hsame (b + d) (by omega) (by omega))
  obtain ⟨d, rfl⟩ : ∃ d, e = (b + d) + 1 := ⟨e - 1 - b, by omega⟩
  have hk := key d (by omega)
  have hc := rn_cut (lv := lv) (l := l) (k := b + d) (by simpa using hend)
  rw [hk, hb] at hc
  constructor
  · unfold rows
    rw [hc]
    simp
  · rw [hc]
theorem rows_zero (lv : List Int) (l : List Nat) : rows lv l 0 = [] := rfl
theorem RR_flat (lv : List Int) : (RR lv).flatten = ON lv := by
  have h := rn_all (lv := lv) (l := OD lv)
  unfold RR rows ON Z
  have e : ((rn lv (OD lv) (OD lv).length).1.map fun p => (pc (OD lv) p).map fun (x : Nat) => (x : Int)) = ((rn lv (OD lv) (OD lv).length).1.map (pc (OD lv))).map (List.map fun (x : Nat) => (x : Int)) := by rw [List.map_map]; rfl
  rw [e, ← List.map_flatten, h]
theorem rows_le (lv : List Int) (l : List Nat) : ∀ k, (rows lv l k).length ≤ k
  | 0 => Nat.le_refl _
  | k + 1 => by
    have := rows_le lv l k
    unfold rows at *
    rw [List.length_map] at *
    rw [rn]
    split
    · simp; omega
    · omega
theorem rows_more (lv : List Int) (l : List Nat) (k : Nat) : (rows lv l k).length ≤ (rows lv l (k + 1)).length := by
  unfold rows
  rw [List.length_map, List.length_map, rn]
  split
  · simp
  · exact Nat.le_refl _
theorem rows_mono (lv : List Int) (l : List Nat) (e : Nat) : ∀ d, (rows lv l e).length ≤ (rows lv l (e + d)).length
  | 0 => Nat.le_refl _
  | d + 1 => Nat.le_trans (rows_mono lv l e d) (rows_more lv l (e + d))
theorem rows_all (lv : List Int) {e : Nat} (h : e ≤ (OD lv).length) : (rows lv (OD lv) e).length ≤ (RR lv).length := by
  have := rows_mono lv (OD lv) e ((OD lv).length - e)
  rw [show e + ((OD lv).length - e) = (OD lv).length by omega] at this
  exact this
theorem pc_Z (l : List Nat) {b e : Nat} : Z (pc l (b, e)) = ((Z l).drop b).take (e - b) := by
  unfold pc Z
  simp only
  rw [List.drop_take, List.map_take, List.map_drop]
end Od
end Go.Proofs.YtmdmehopefgndaaGreatDoor

/- The program's Runs, by contract. -/
namespace Go.Proofs.YtmdmehopefgndaaGreatDoor
open Go.RowKit
set_option linter.unusedVariables false
set_option maxHeartbeats 700000
set_option maxRecDepth 100000
theorem ru_new (w : World) (v : Value) (t : TypeId) : ∀ j u, ([v] : List Value)[j]? = some u → (w.alloc (.cells #[v] t)).cell? ((⟨w.heap.size, 0, none⟩ : Addr).add j) = some u := by
  intro j u hj
  match j, hj with
  | 0, hj =>
    simp at hj
    subst hj
    rw [add_zero0, World.cell?_alloc_mark]
    rfl
  | j + 1, hj => simp at hj
theorem runs_bad (ao : Option Addr) (n cap : Nat) (l : List Int) (w : World) (h : Row .i64 w ao n cap l) (hf : ¬ Od.Fo l) :
    Calls Tryz.prog 19 #[.slice ao n cap] w fun e w' => e = .returned (.tuple #[.slice none 0 0, .int .i64 2]) ∧ w = w' := by
  have HA := hide (order_bad ao n cap l w h hf)
  clear h hf
  go_enter Tryz.func19, Tryz.ntmps19
  go_wp2_with (go_at_call 9; refine HA.out.mono ?_; rintro e w' ⟨rfl, rfl⟩)
  go_ret2
  exact ⟨rfl, rfl⟩
theorem OD_getD_lt {l : List Int} (hf : Od.Fo l) {k : Nat} (hk : k < (Od.OD l).length) : (Od.OD l).getD k 0 < l.length := Od.OD_lt hf (Od.OD_in hk)
theorem runs_ok (ao : Option Addr) (n cap : Nat) (l : List Int) (w : World) (h : Row .i64 w ao n cap l) (hf : Od.Fo l) (hn : n * 8 ≤ 281474976702464) (K : Nat) (hK : (Od.RR l).length ≤ K) (hKN : K * 24 ≤ 140737488355328) :
    Calls Tryz.prog 19 #[.slice ao n cap] w fun e w' => ∃ a c, e = .returned (.tuple #[.slice a (Od.RR l).length c, .int .i64 0]) ∧ RL w' a c (Od.RR l) ∧ KO w w' := by
  have HO := hide (order_ok ao n cap l w h hf (by omega))
  have H := hide h
  have HL := hide h.len
  have HF := hide hf
  have HON := hide (Od.ON_len l)
  have HLT := hide (fun k (hk : k < (Od.OD l).length) => OD_getD_lt hf hk)
  have HPC := hide (fun b e => Od.pc_Z (Od.OD l) (b := b) (e := e))
  have HZ := hide (show Od.ON l = Od.Z (Od.OD l) from rfl)
  have hLn : (Od.OD l).length ≤ 35184372087808 := by
    have := Od.K_le l
    have h2 := Od.OD_len l
    rw [h.len] at this
    omega
  have HMO := hide (fun e (he : e ≤ (Od.OD l).length) => Nat.le_trans (Od.rows_all l he) hK)
  have HRR := hide (show Od.RR l = Od.rows l (Od.OD l) (Od.OD l).length from rfl)
  obtain ⟨jj, hjj, hz0, hz1, hz2⟩ := info_parts infoInts13
  have HJJ : Hid (Tryz.prog.info? 27 = some jj) := hjj
  have HZ0 := hide hz0
  have HZ1 := hide hz1
  have HZ2 := hide hz2
  obtain ⟨ii, hii, _⟩ := info_parts infoInt
  have HII : Hid (Tryz.prog.info? 3 = some ii) := hii
  clear h hf hjj hz0 hz1 hz2 hii hK
  generalize hOD : Od.OD l = od at *
  have HOD := hide hOD
  clear hOD
  obtain ⟨m, hm⟩ : ∃ m, od.length = m := ⟨_, rfl⟩
  rw [hm] at hLn
  have HM := hide hm
  rw [hm] at HO HLT HRR HMO
  clear hm
  go_enter Tryz.func19, Tryz.ntmps19
  go_wp2_with (go_at_call 9; refine HO.out.mono ?_; rintro e w1 ⟨v1, rfl, ho1, hk1⟩; obtain ⟨ap, cp, ev, hp⟩ := row_of_owns ho1; subst ev; have HP := hide hp; have K1 := hide hk1; clear ho1 hk1 hp HO)
  go_loopw [6, 7, 8] (fun s6 s7 s8 W => ∃ (va : Value) (b : Nat), va = s6 ∧ s7 = .int .i64 (b : Int) ∧ b ≤ m ∧ Hid ((Od.rn l od b).2 = b) ∧ Hid (∃ vs, LR w1.heap.size W va vs (Od.rows l od b)) ∧ Hid (KO w1 W)) (fun _ s7 _ _ => m - (intOf s7).toNat)
  case atStart => exact ⟨_, 0, rfl, rfl, Nat.zero_le _, hide rfl, hide ⟨[], LR.begin _ _⟩, hide (KO.refl w1)⟩
  case round =>
    obtain ⟨va, b, hva, rfl, hb, hrn, hlr, hkw⟩ := hrel
    subst hva
    by_cases hlt : b < m
    · have hin : (b : Int) < (m : Int) := by omega
      go_wp2
      go_loopw [8] (fun s8 W => ∃ e : Nat, s8 = .int .i64 (e : Int) ∧ b < e ∧ e ≤ m ∧ Hid (∀ k, b ≤ k → k < e → l.getD (od.getD k 0) 0 = l.getD (od.getD b 0) 0) ∧ Hid (∃ vs, LR w1.heap.size W va vs (Od.rows l od b)) ∧ Hid (KO w1 W)) (fun s8 _ => m - (intOf s8).toNat)
      case atStart => exact ⟨b + 1, by go_num, by omega, by omega, hide (fun k h1 h2 => by rw [show k = b by omega]), hlr, hkw⟩
      case round =>
        clear hlr hkw
        obtain ⟨e, rfl, hbe, hem, hall, hlr, hkw⟩ := hrel
        have hrun : Hid ((e = od.length ∨ ¬ l.getD (od.getD e 0) 0 = l.getD (od.getD b 0) 0) → Od.rows l od e = Od.rows l od b ++ [Od.Z (Od.pc od (b, e))] ∧ (Od.rn l od e).2 = e) := hide (fun q => Od.rows_cut hbe (by rw [HM.out]; exact hem) hrn.out (fun k h1 h2 => by rw [hall.out (k + 1) (by omega) h2, hall.out k h1 (by omega)]) (by
          rcases q with q | q
          · exact .inl q
          · exact .inr (by rw [hall.out (e - 1) (by omega) (by omega)]; exact q)))
        by_cases hlt2 : e < m
        · have hin2 : (e : Int) < (m : Int) := by omega
          obtain ⟨bp, op, rfl, hbp, hcp⟩ := HP.out.cells (by omega)
          have hxe := HLT.out e hlt2
          have hxb := HLT.out b hlt
          rw [HL.out] at hxe hxb
          obtain ⟨bl, ol, rfl, hbl, hcl⟩ := H.out.cells (by omega)
          have KW := hide (KO.on K1.out hkw.out)
          have zl : ∀ k, k < m → (Od.ON l).getD k 0 = (od.getD k 0 : Int) := fun k hk => by rw [HZ.out]; exact Od.Z_at od (by rw [HM.out]; exact hk)
          have c1 := (Below.cell hkw.out (by exact hbp)).trans (hcp e (by rw [HON.out, HM.out]; exact hlt2))
          have c2 := (Below.cell hkw.out (by exact hbp)).trans (hcp b (by rw [HON.out, HM.out]; exact hlt))
          rw [zl e hlt2] at c1
          rw [zl b hlt] at c2
          have c3 := (Below.cell KW.out (by exact hbl)).trans (hcl (od.getD e 0) (by rw [HL.out]; exact hxe))
          have c4 := (Below.cell KW.out (by exact hbl)).trans (hcl (od.getD b 0) (by rw [HL.out]; exact hxb))
          have hxe2 : ((od.getD e 0 : Nat) : Int) < (n : Int) := by omega
          have hxb2 : ((od.getD b 0 : Nat) : Int) < (n : Int) := by omega
          clear hcp hcl zl
          by_cases heq : l.getD (od.getD e 0) 0 = l.getD (od.getD b 0) 0
          · have HA : Hid (∀ k, b ≤ k → k < e + 1 → l.getD (od.getD k 0) 0 = l.getD (od.getD b 0) 0) := hide (fun k h1 h2 => by
              by_cases ek : k = e
              · rw [ek]; exact heq
              · exact hall.out k h1 (by omega))
            rw [heq] at c3
            clear hall hrun heq
            generalize l.getD (od.getD b 0) 0 = y at c3 c4 HA ⊢
            generalize od.getD e 0 = xe at *
            generalize od.getD b 0 = xb at *
            have hyy : (y == y) = true := by simp
            go_wp2_with fail
            go_quiet (fail)
            go_wp2
            go_roundw
            case rel =>
              refine ⟨e + 1, by go_num, by omega, by omega, HA, hide ?_, hide (KO.on hkw.out (below_of_drewN ⟨_, rfl⟩))⟩
              obtain ⟨vs, hvs⟩ := hlr.out
              exact ⟨vs, hvs.below (below_of_drewN ⟨_, rfl⟩)⟩
            case measure => simp [intOf]; omega
          · have HR2 := hide (hrun.out (.inr heq))
            have hne : (l.getD (od.getD e 0) 0 == l.getD (od.getD b 0) 0) = false := beq_eq_false_iff_ne.2 heq
            clear hall hrun heq
            generalize l.getD (od.getD b 0) 0 = y at c4 hne
            generalize l.getD (od.getD e 0) 0 = y2 at c3 hne
            generalize od.getD e 0 = xe at *
            generalize od.getD b 0 = xb at *
            go_wp2_with fail
            go_quiet (fail)
            have K4 := hide (KO.on hkw.out (below_drewN wr nq))
            have hlr4 : ∃ vs, LR w1.heap.size (wr.drewN nq) va vs (Od.rows l od b) := by obtain ⟨vs, hvs⟩ := hlr.out; exact ⟨vs, hvs.below (below_drewN wr nq)⟩
            clear hlr hkw c1 c2 c3 c4 hne
            generalize wr.drewN nq = w4 at *
            obtain ⟨vs, hvs⟩ := hlr4
            have hNb : (Od.rows l od b).length + 1 ≤ K := by
              have h1 := HMO.out e hem
              rw [HR2.out.1, List.length_append, List.length_singleton] at h1
              exact h1
            obtain ⟨N, hN⟩ : ∃ N, (Od.rows l od b).length = N := ⟨_, rfl⟩
            have hoa := hvs.oa
            rw [hN] at hoa hNb
            obtain ⟨a6, c6, hva, _⟩ := owns_form hoa
            subst hva
            have hP4 := HP.out.below K4.out
            have hple := hP4.le
            have hmid := fun W => run_mid (P := Tryz.prog) Tryz.underlying27 HII.out cellsInt (some ⟨bp, op, none⟩) m cp b e (by omega) (by omega) W
            have HCL := hide (clone_any (tl (some ⟨bp, op, none⟩) cp b) (e - b) (cp - b) _ w4 ((hP4.drop (j := b) (by omega)).take (e := e - b) (by omega)) (by omega))
            have hpc : ((Od.ON l).drop b).take (e - b) = Od.Z (Od.pc od (b, e)) := by rw [HPC.out b e, HZ.out]
            rw [hpc] at HCL
            have hrl : (Od.Z (Od.pc od (b, e))).length = e - b := by rw [← hpc, List.length_take, List.length_drop, HON.out, HM.out]; omega
            have HVS := hide hvs
            have HRL := hide hrl
            have HNN := hide hN
            clear hvs hoa hP4 hpc hrl hN
            go_wp2_with fail
            refine HCL.out.mono ?_
            rintro e5 w5 ⟨u, rfl, hu5, hk5⟩
            obtain ⟨au, cu, hu, _⟩ := owns_form hu5
            subst hu
            have hs4 := K4.out.size
            have HU6 := hide ((owns_below hu5 (KO.alloc (KO.refl w5) (.cells #[.slice au (e - b) cu] 27))))
            have HV6 := hide ((HVS.out.below hk5).below (KO.alloc (KO.refl w5) (.cells #[.slice au (e - b) cu] 27)))
            have K6 := hide (KO.on K4.out (KO.on hk5 (KO.alloc (KO.refl w5) (.cells #[.slice au (e - b) cu] 27))))
            have HOA := hide (show (w5.alloc (.cells #[.slice au (e - b) cu] 27)).ownsRow w1.heap.size 27 1 (.slice a6 N c6) N vs from by have := HV6.out.oa; rw [HNN.out] at this; exact this)
            have hs6 : w1.heap.size ≤ (w5.alloc (.cells #[.slice au (e - b) cu] 27)).heap.size := K6.out.size
            clear hu5 hk5 HCL HVS
            go_wp2_with (at_builtin; refine wpList_append_own _ rfl (.tmp 46) (.tmp 52) 57 rfl w1.heap.size 27 jj (.slice none 0 0) 1 24 Tryz.underlying57 HJJ.out HZ0.out HZ1.out HZ2.out rfl (by decide) (.slice a6 N c6) N vs rfl HOA.out ⟨w5.heap.size, 0, none⟩ 1 1 [.slice au (e - b) cu] rfl rfl (ru_new w5 _ _) (by simp [Value.oneCell']) (by unfold maxLen; omega) (by omega) hs6 ?_; intro v7 w7 ho7 hg7 _)
            have hown7 : w7.ownsRow w1.heap.size 27 1 v7 ((Od.rows l od b).length + 1) (vs ++ [.slice au (e - b) cu]) := by rw [HNN.out]; exact ho7
            have HL7 := hide (HV6.out.push (r := Od.Z (Od.pc od (b, e))) (by rw [HRL.out]; exact owns_mono HU6.out hs4) hown7 hg7)
            have K7 := hide (show KO w1 w7 from Below.grown K6.out hg7 K6.out.size (fun j hj => (HOA.out.lt j hj).1))
            rw [← HR2.out.1] at HL7
            have HRN := hide HR2.out.2
            clear hown7 ho7 hg7 HU6 HV6 HOA hs6
            go_wp2
            go_roundw
            case rel => exact ⟨_, e, rfl, by first | rfl | go_num, hem, HRN, hide ⟨_, HL7.out⟩, K7⟩
            case measure => simp [intOf]; omega
        · obtain rfl : m = e := by omega
          have hne2 : ¬ (m : Int) < (m : Int) := by omega
          have HR2 := hide (hrun.out (.inl HM.out.symm))
          clear hall hrun
          go_wp2_with fail
          go_quiet (fail)
          have K4 := hide (KO.on hkw.out (below_drewN wr nq))
          have hlr4 : ∃ vs, LR w1.heap.size (wr.drewN nq) va vs (Od.rows l od b) := by obtain ⟨vs, hvs⟩ := hlr.out; exact ⟨vs, hvs.below (below_drewN wr nq)⟩
          clear hlr hkw
          generalize wr.drewN nq = w4 at *
          obtain ⟨vs, hvs⟩ := hlr4
          have hNb : (Od.rows l od b).length + 1 ≤ K := by
            have h1 := HMO.out m (Nat.le_refl _)
            rw [HR2.out.1, List.length_append, List.length_singleton] at h1
            exact h1
          obtain ⟨N, hN⟩ : ∃ N, (Od.rows l od b).length = N := ⟨_, rfl⟩
          have hoa := hvs.oa
          rw [hN] at hoa hNb
          obtain ⟨a6, c6, hva, _⟩ := owns_form hoa
          subst hva
          have hP4 := HP.out.below K4.out
          have hple := hP4.le
          have hmid := fun W => run_mid (P := Tryz.prog) Tryz.underlying27 HII.out cellsInt ap m cp b m (by omega) (by omega) W
          have HCL := hide (clone_any (tl ap cp b) (m - b) (cp - b) _ w4 ((hP4.drop (j := b) (by omega)).take (e := m - b) (by omega)) (by omega))
          have hpc : ((Od.ON l).drop b).take (m - b) = Od.Z (Od.pc od (b, m)) := by rw [HPC.out b m, HZ.out]
          rw [hpc] at HCL
          have hrl : (Od.Z (Od.pc od (b, m))).length = m - b := by rw [← hpc, List.length_take, List.length_drop, HON.out, HM.out]; omega
          have HVS := hide hvs
          have HRL := hide hrl
          have HNN := hide hN
          clear hvs hoa hP4 hpc hrl hN
          go_wp2_with fail
          refine HCL.out.mono ?_
          rintro e5 w5 ⟨u, rfl, hu5, hk5⟩
          obtain ⟨au, cu, hu, _⟩ := owns_form hu5
          subst hu
          have hs4 := K4.out.size
          have HU6 := hide ((owns_below hu5 (KO.alloc (KO.refl w5) (.cells #[.slice au (m - b) cu] 27))))
          have HV6 := hide ((HVS.out.below hk5).below (KO.alloc (KO.refl w5) (.cells #[.slice au (m - b) cu] 27)))
          have K6 := hide (KO.on K4.out (KO.on hk5 (KO.alloc (KO.refl w5) (.cells #[.slice au (m - b) cu] 27))))
          have HOA := hide (show (w5.alloc (.cells #[.slice au (m - b) cu] 27)).ownsRow w1.heap.size 27 1 (.slice a6 N c6) N vs from by have := HV6.out.oa; rw [HNN.out] at this; exact this)
          have hs6 : w1.heap.size ≤ (w5.alloc (.cells #[.slice au (m - b) cu] 27)).heap.size := K6.out.size
          clear hu5 hk5 HCL HVS
          go_wp2_with (at_builtin; refine wpList_append_own _ rfl (.tmp 46) (.tmp 52) 57 rfl w1.heap.size 27 jj (.slice none 0 0) 1 24 Tryz.underlying57 HJJ.out HZ0.out HZ1.out HZ2.out rfl (by decide) (.slice a6 N c6) N vs rfl HOA.out ⟨w5.heap.size, 0, none⟩ 1 1 [.slice au (m - b) cu] rfl rfl (ru_new w5 _ _) (by simp [Value.oneCell']) (by unfold maxLen; omega) (by omega) hs6 ?_; intro v7 w7 ho7 hg7 _)
          have hown7 : w7.ownsRow w1.heap.size 27 1 v7 ((Od.rows l od b).length + 1) (vs ++ [.slice au (m - b) cu]) := by rw [HNN.out]; exact ho7
          have HL7 := hide (HV6.out.push (r := Od.Z (Od.pc od (b, m))) (by rw [HRL.out]; exact owns_mono HU6.out hs4) hown7 hg7)
          have K7 := hide (show KO w1 w7 from Below.grown K6.out hg7 K6.out.size (fun j hj => (HOA.out.lt j hj).1))
          rw [← HR2.out.1] at HL7
          have HRN := hide HR2.out.2
          clear hown7 ho7 hg7 HU6 HV6 HOA hs6
          go_wp2
          go_roundw
          case rel => exact ⟨_, m, rfl, by first | rfl | go_num, hem, HRN, hide ⟨_, HL7.out⟩, K7⟩
          case measure => simp [intOf]; omega
    · obtain rfl : m = b := by omega
      have hne : ¬ (m : Int) < (m : Int) := by omega
      obtain ⟨vs, hvs⟩ := hlr.out
      obtain ⟨a6, c6, hva, hrd⟩ := hvs.read
      subst hva
      have HRD := hide (show RL wr a6 c6 (Od.RR l) from by rw [HRR.out]; exact hrd)
      have hlen : (Od.rows l od m).length = (Od.RR l).length := by rw [HRR.out]
      obtain ⟨N, hN⟩ : ∃ N, (Od.RR l).length = N := ⟨_, rfl⟩
      rw [hlen, hN]
      have HN := hide hN
      clear hvs hrd hlr hlen hN
      go_wp2
      go_ret2
      refine ⟨a6, c6, ?_, HRD.out, KO.on K1.out hkw.out⟩
      rw [HN.out]
      rfl
/-- What Runs answers. -/
def RA (l : List Int) (R : List (List Int)) (E : Int) : Prop := (Od.Fo l ∧ R = Od.RR l ∧ E = 0) ∨ (¬ Od.Fo l ∧ R = [] ∧ E = 2)
theorem RA_some (l : List Int) : ∃ L R E, OA l L E ∧ RA l R E ∧ R.flatten = L := by
  by_cases h : Od.Fo l
  · exact ⟨_, _, _, .inl ⟨h, rfl, rfl⟩, .inl ⟨h, rfl, rfl⟩, Od.RR_flat l⟩
  · exact ⟨_, _, _, .inr ⟨h, rfl, rfl⟩, .inr ⟨h, rfl, rfl⟩, rfl⟩
theorem RL_nil (w : World) : RL w none 0 [] := ⟨Nat.le_refl _, Nat.zero_le _, fun j hj => by simp at hj⟩
theorem runs_any (ao : Option Addr) (n cap : Nat) (l : List Int) (w : World) (h : Row .i64 w ao n cap l) (hn : n ≤ 100000) (R : List (List Int)) (E : Int) (hA : RA l R E) :
    Calls Tryz.prog 19 #[.slice ao n cap] w fun e w' => ∃ a c, e = .returned (.tuple #[.slice a R.length c, .int .i64 E]) ∧ RL w' a c R ∧ KO w w' := by
  rcases hA with hA | hA
  · obtain ⟨hf, hR, hE⟩ := hA
    subst hE
    have hO := runs_ok ao n cap l w h hf (by omega) n (Nat.le_trans (Od.rows_le l _ _) (by rw [Od.OD_len, ← h.len]; exact Od.K_le l)) (by omega)
    rw [← hR] at hO
    exact hO
  · obtain ⟨hf, hR, hE⟩ := hA
    subst hE hR
    refine (runs_bad ao n cap l w h hf).mono ?_
    rintro e w' ⟨e0, e1⟩
    exact ⟨none, 0, e0, RL_nil _, by rw [← e1]; exact KO.refl _⟩
end Go.Proofs.YtmdmehopefgndaaGreatDoor
