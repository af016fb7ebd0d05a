import Derived.Test.YtmdmehopefgndaaGreatDoorZ07
import Derived.Test.YtmdmehopefgndaaGreatDoorZ27
import Derived.ScopeJumps
import Derived.WalkMore
/- Appends that know their room: into a row with spare cells; of a whole list to an empty row. -/
namespace Go.Proofs.YtmdmehopefgndaaGreatDoor
open Go.RowKit
set_option linter.unusedVariables false
theorem news_of_row {k : IntKind} {w : World} {ad : Addr} {m c : Nat} {zs : List Int} (hrow : Row k w (some ad) m c zs) : ∀ j u, (zs.map (Value.int k))[j]? = some u → w.cell? (ad.add j) = some u := by
  intro j u hj
  have hjl : j < zs.length := by
    have := (List.getElem?_eq_some_iff.1 hj).1
    simpa using this
  have hl := hrow.len
  obtain ⟨b, off, e1, _, hc⟩ := hrow.cells (by omega)
  simp only [Option.some.injEq] at e1
  subst e1
  have hadd : (⟨b, off, none⟩ : Addr).add j = ⟨b, off + j, none⟩ := by unfold Addr.add; split <;> simp_all
  rw [hadd, hc j hjl]
  rw [List.getElem?_map, List.getElem?_eq_getElem hjl] at hj
  simp only [Option.map_some, Option.some.injEq] at hj
  rw [← hj]
  simp [List.getD, List.getElem?_eq_getElem hjl]
/-- An append within the room that there is: the row stays where it lies. -/
theorem wp_append_spare {P : Program} (w : World) {o : Oper} {a : Act} {K : Act → World → Prop} {Q : Exit → Act → World → Prop} (s x : Operand) (t : TypeId)
    (ho : o.op = .call { callee := .builtin .append, args := #[s, x], argTypes := #[t, t] })
    (base : Nat) (e : TypeId) (i : TypeInfo) (ht : P.underlying t = some (.slice e)) (hi : P.info? e = some i) (hsize : i.size = 1)
    (g n cap : Nat) (xs : List Value) (hs : a.eval s = .slice (some ⟨g, 0, none⟩) n cap) (hown : w.ownsRow base e 1 (.slice (some ⟨g, 0, none⟩) n cap) n xs)
    (k : IntKind) (ad : Addr) (m c : Nat) (zs : List Int) (hx : a.eval x = .slice (some ad) m c) (hrow : Row k w (some ad) m c zs) (hroom : n + m ≤ cap)
    (h : ∀ w', w'.ownsRow base e 1 (.slice (some ⟨g, 0, none⟩) (n + m) cap) (n + m) (xs ++ zs.map (Value.int k)) → Below base w w' → K (a.put o.dst (.slice (some ⟨g, 0, none⟩) (n + m) cap)) w') : o.wp P a w K Q := by
  have hzl : (zs.map (Value.int k)).length = m * i.size := by simp [hrow.len, hsize]
  rcases hown.2 with ⟨h0, _⟩ | ⟨g', cap', cur, hv, hbg, hg, hnc, hcm, hcs, htake⟩
  · cases h0
  · cases hv
    have hfit : n * i.size + (zs.map (Value.int k)).length ≤ cur.size := by rw [hzl, hcs, hsize, ← Nat.add_mul]; exact Nat.mul_le_mul_right _ hroom
    have hr := run_append_room (P := P) w t o.type e i ht hi g n cap cur hg ad m c (zs.map (Value.int k)) hzl (news_of_row hrow) (ints_oneCell k zs) hroom hfit
    have hlen : (xs ++ zs.map (Value.int k)).length = (n + m) * 1 := by rw [List.length_append, hown.1, hzl, hsize, Nat.add_mul]
    unfold Oper.wp execOp
    simp only [ho, resolve, invoke, builtin, Sem.run_bind, Sem.run_pure, Result.andThen_ok, List.map_toArray, List.map_cons, List.map_nil, hs, hx, hr]
    refine h _ ⟨hlen, .inr ⟨g, cap, _, rfl, hbg, setRow_heap w g cur _ e _ hg, hroom, hcm, ?_, ?_⟩⟩ ?_
    · simp only [List.size_toArray, List.length_append, List.length_take, List.length_drop, Array.length_toList]
      rw [hzl, hsize] at *
      omega
    · rw [hsize, htake, ← hlen]
      exact List.take_left
    · have hgr : w.grownBy (w.setRow g (cur.toList.take (n * i.size) ++ zs.map (Value.int k) ++ cur.toList.drop (n * i.size + (zs.map (Value.int k)).length)).toArray) (Value.ownBlock (.slice (some ⟨g, 0, none⟩) n cap)) :=
        ⟨rfl, rfl, rfl, by simp, fun k _ hk => setRow_other w g k _ (fun e => hk (by simp [Value.ownBlock, e]))⟩
      exact (Below.refl base w).grown hgr (Nat.le_of_lt (Nat.lt_of_le_of_lt hbg (Array.getElem?_eq_some_iff.1 hg).1)) (fun j hj => (hown.lt j hj).1)
theorem wpList_append_spare {P : Program} (w : World) {ops : Array Oper} {rest : List Oper} {o : Oper} {a : Act} {Q : Exit → Act → World → Prop} (hw : Region.wanted o (yielded ops a.tmps) = true) (s x : Operand) (t : TypeId)
    (ho : o.op = .call { callee := .builtin .append, args := #[s, x], argTypes := #[t, t] })
    (base : Nat) (e : TypeId) (i : TypeInfo) (ht : P.underlying t = some (.slice e)) (hi : P.info? e = some i) (hsize : i.size = 1)
    (g n cap : Nat) (xs : List Value) (hs : a.eval s = .slice (some ⟨g, 0, none⟩) n cap) (hown : w.ownsRow base e 1 (.slice (some ⟨g, 0, none⟩) n cap) n xs)
    (k : IntKind) (ad : Addr) (m c : Nat) (zs : List Int) (hx : a.eval x = .slice (some ad) m c) (hrow : Row k w (some ad) m c zs) (hroom : n + m ≤ cap)
    (h : ∀ w', w'.ownsRow base e 1 (.slice (some ⟨g, 0, none⟩) (n + m) cap) (n + m) (xs ++ zs.map (Value.int k)) → Below base w w' → wpList P ops Q rest (a.put o.dst (.slice (some ⟨g, 0, none⟩) (n + m) cap)) w') : wpList P ops Q (o :: rest) a w :=
  BigFrame.wpList_want hw fun K hK => wp_append_spare w s x t ho base e i ht hi hsize g n cap xs hs hown k ad m c zs hx hrow hroom fun w' h1 h2 => hK _ _ (h w' h1 h2)
/-- The same at a step of a region that draws its order. -/
theorem step_append_spare {P : Program} (w : World) {ops : Array Oper} {o : Oper} {a : Act} {K : Act → World → Prop} {Q : Exit → Act → World → Prop} {E : Prop} (hgd : o.guard = none) (s x : Operand) (t : TypeId)
    (ho : o.op = .call { callee := .builtin .append, args := #[s, x], argTypes := #[t, t] })
    (base : Nat) (e : TypeId) (i : TypeInfo) (ht : P.underlying t = some (.slice e)) (hi : P.info? e = some i) (hsize : i.size = 1)
    (g n cap : Nat) (xs : List Value) (hs : a.eval s = .slice (some ⟨g, 0, none⟩) n cap) (hown : w.ownsRow base e 1 (.slice (some ⟨g, 0, none⟩) n cap) n xs)
    (k : IntKind) (ad : Addr) (m c : Nat) (zs : List Int) (hx : a.eval x = .slice (some ad) m c) (hrow : Row k w (some ad) m c zs) (hroom : n + m ≤ cap)
    (h : ∀ w', w'.ownsRow base e 1 (.slice (some ⟨g, 0, none⟩) (n + m) cap) (n + m) (xs ++ zs.map (Value.int k)) → Below base w w' → K (a.put o.dst (.slice (some ⟨g, 0, none⟩) (n + m) cap)) w') :
    if Region.wanted o (yielded ops a.tmps) = true then Oper.wp P o a w K Q else E := by
  have hw : Region.wanted o (yielded ops a.tmps) = true := by simp [Region.wanted, hgd]
  rw [if_pos hw]
  exact wp_append_spare w s x t ho base e i ht hi hsize g n cap xs hs hown k ad m c zs hx hrow hroom h
/-- An append of a whole list to an empty row without room: as many bytes as a row may have. -/
theorem wp_append_fresh {P : Program} (w : World) {o : Oper} {a : Act} {K : Act → World → Prop} {Q : Exit → Act → World → Prop} (s x : Operand) (t : TypeId)
    (ho : o.op = .call { callee := .builtin .append, args := #[s, x], argTypes := #[t, t] })
    (base : Nat) (e : TypeId) (i : TypeInfo) (z : Value) (bytes : Nat) (ht : P.underlying t = some (.slice e)) (hi : P.info? e = some i) (hz : i.zero = some z)
    (hsize : i.size = 1) (hby : i.bytes = bytes) (hzs : z.cells.size = 1)
    (g : Nat) (hs : a.eval s = .slice (some ⟨g, 0, none⟩) 0 0) (hown : w.ownsRow base e 1 (.slice (some ⟨g, 0, none⟩) 0 0) 0 [])
    (k : IntKind) (ad : Addr) (m c : Nat) (zs : List Int) (hx : a.eval x = .slice (some ad) m c) (hrow : Row k w (some ad) m c zs) (hm : m ≤ 9223372036854775807)
    (hbytes : m * bytes ≤ 281474976710656) (hbase : base ≤ w.heap.size)
    (h : ∀ v' w', w'.ownsRow base e 1 v' m (zs.map (Value.int k)) → Below base w w' → K (a.put o.dst v') w') : o.wp P a w K Q := by
  by_cases hm0 : m = 0
  · subst hm0
    have hzs0 : zs = [] := List.length_eq_zero_iff.1 hrow.len
    subst hzs0
    exact wp_append_spare w s x t ho base e i ht hi hsize g 0 0 [] hs hown k ad 0 c [] hx hrow (Nat.le_refl _) (fun w' h1 h2 => h _ w' (by simpa using h1) h2)
  have hzl : (zs.map (Value.int k)).length = m * i.size := by simp [hrow.len, hsize]
  have hns : Builtin.nextslicecap (0 + m) 0 * i.bytes ≤ 281474976710656 := by
    have e1 : Builtin.nextslicecap (0 + m) 0 = m := by unfold Builtin.nextslicecap; rw [if_pos (by omega)]; omega
    rw [e1, hby]
    exact hbytes
  have hr := run_append_grow (P := P) w t o.type e i z ht hi hz ⟨g, 0, none⟩ 0 0 [] (by simp) (by simp) ad m c (zs.map (Value.int k)) hzl (news_of_row hrow) (by omega) (by omega) hns
  have hge := grownCap_ge w (0 + m) 0 e
  have hcm : grownCap w (0 + m) 0 e ≤ maxLen := grownCap_le_maxLen w (0 + m) 0 e (by unfold maxLen; omega)
  unfold Oper.wp execOp
  simp only [ho, resolve, invoke, builtin, Sem.run_bind, Sem.run_pure, Result.andThen_ok, List.map_toArray, List.map_cons, List.map_nil, hs, hx, hr]
  rw [Nat.zero_add] at *
  refine h _ _ ⟨by simp [hrow.len], .inr ⟨w.heap.size, _, _, rfl, hbase, heap_alloc_new w.drew _, hge, hcm, ?_, ?_⟩⟩ ?_
  · simp only [Array.size_append, List.size_toArray, size_zeroCells, hzs, hzl, hsize, List.length_nil]
    omega
  · simp only [Array.toList_append, List.nil_append]
    have e2 : m * 1 = (zs.map (Value.int k)).length := by rw [hzl, hsize]
    rw [e2]
    exact List.take_left
  · have hgr : w.grownBy (w.drew.alloc (.cells ([].toArray ++ (zs.map (Value.int k)).toArray ++ Builtin.zeroCells z.cells (grownCap w m 0 e - m)) e)) (Value.ownBlock (.slice none 0 0)) :=
      ⟨rfl, rfl, rfl, by simp, fun j hj _ => heap_alloc_old w.drew _ hj⟩
    exact (Below.refl base w).grown hgr hbase (fun j hj => by cases hj)
theorem wpList_append_fresh {P : Program} (w : World) {ops : Array Oper} {rest : List Oper} {o : Oper} {a : Act} {Q : Exit → Act → World → Prop} (hw : Region.wanted o (yielded ops a.tmps) = true) (s x : Operand) (t : TypeId)
    (ho : o.op = .call { callee := .builtin .append, args := #[s, x], argTypes := #[t, t] })
    (base : Nat) (e : TypeId) (i : TypeInfo) (z : Value) (bytes : Nat) (ht : P.underlying t = some (.slice e)) (hi : P.info? e = some i) (hz : i.zero = some z)
    (hsize : i.size = 1) (hby : i.bytes = bytes) (hzs : z.cells.size = 1)
    (g : Nat) (hs : a.eval s = .slice (some ⟨g, 0, none⟩) 0 0) (hown : w.ownsRow base e 1 (.slice (some ⟨g, 0, none⟩) 0 0) 0 [])
    (k : IntKind) (ad : Addr) (m c : Nat) (zs : List Int) (hx : a.eval x = .slice (some ad) m c) (hrow : Row k w (some ad) m c zs) (hm : m ≤ 9223372036854775807)
    (hbytes : m * bytes ≤ 281474976710656) (hbase : base ≤ w.heap.size)
    (h : ∀ v' w', w'.ownsRow base e 1 v' m (zs.map (Value.int k)) → Below base w w' → wpList P ops Q rest (a.put o.dst v') w') : wpList P ops Q (o :: rest) a w :=
  BigFrame.wpList_want hw fun K hK => wp_append_fresh w s x t ho base e i z bytes ht hi hz hsize hby hzs g hs hown k ad m c zs hx hrow hm hbytes hbase fun v' w' h1 h2 => hK _ _ (h v' w' h1 h2)
end Go.Proofs.YtmdmehopefgndaaGreatDoor

/- Which levels may be, which places are seen. -/
namespace Go.Proofs.YtmdmehopefgndaaGreatDoor
open Go.RowKit
set_option linter.unusedVariables false
set_option maxHeartbeats 1000000
set_option maxRecDepth 100000
namespace Od
instance (l : List Int) : Decidable (Fo l) := by unfold Fo; exact inferInstance
/-- Places as numbers. -/
def Z (ps : List Nat) : List Int := ps.map fun (x : Nat) => (x : Int)
theorem Z_len (ps : List Nat) : (Z ps).length = ps.length := by simp [Z]
theorem Z_at (ps : List Nat) {i : Nat} (hi : i < ps.length) : (Z ps).getD i 0 = (ps.getD i 0 : Int) := by simp [Z, List.getD, hi]
/-- The places seen among the first k. -/
def KP (lv : List Int) (k : Nat) : List Nat := (List.range k).filter (sn lv)
theorem KP_in {lv : List Int} {k : Nat} (h : sn lv k = true) : KP lv (k + 1) = KP lv k ++ [k] := by
  unfold KP
  rw [List.range_succ, List.filter_append]
  simp [h]
theorem KP_out {lv : List Int} {k : Nat} (h : sn lv k = false) : KP lv (k + 1) = KP lv k := by
  unfold KP
  rw [List.range_succ, List.filter_append]
  simp [h]
theorem KP_le (lv : List Int) (k : Nat) : (KP lv k).length ≤ k := by
  have := List.length_filter_le (sn lv) (List.range k)
  rw [List.length_range] at this
  exact this
theorem sn_iff {lv : List Int} (hf : Fo lv) {k : Nat} (hk : k < lv.length) : sn lv k = true ↔ ¬ lv.getD k 0 = -1 := by
  have := hf k hk
  constructor
  · intro h
    have := (sn_at h).2
    omega
  · intro h
    exact sn_of (by omega) hk
end Od
theorem areLevels_any (ao : Option Addr) (n cap : Nat) (l : List Int) (w : World) (h : Row .i64 w ao n cap l) :
    Calls Tryz.prog 21 #[.slice ao n cap] w fun e w' => e = .returned (.bool (decide (Od.Fo l))) ∧ w = w' := by
  have hmx : n ≤ maxLen := Nat.le_trans h.le h.max
  unfold maxLen at hmx
  have H := hide h
  have HL := hide h.len
  clear h
  go_enter Tryz.func21, Tryz.ntmps21
  go_wp2
  go_loopw [4, 7] (fun s4 i wr => ∃ k : Nat, k ≤ n ∧ i = .int .i64 (k : Int) ∧ Hid (∀ j, j < k → -1 ≤ l.getD j 0 ∧ l.getD j 0 ≤ 127) ∧ wr = w) (fun _ i _ => n - (intOf i).toNat)
  case atStart => exact ⟨0, Nat.zero_le _, rfl, hide (fun j hj => absurd hj (Nat.not_lt_zero _)), rfl⟩
  case round =>
    obtain ⟨k, hk, rfl, hall, rfl⟩ := hrel
    by_cases hlt : k < n
    · obtain ⟨b, off, rfl, hbl, hc⟩ := H.out.cells (by omega)
      have hkl : k < l.length := by rw [HL.out]; exact hlt
      have ck := hc k hkl
      have HX : Hid (∀ x, l.getD k 0 = x → (-1 ≤ x ∧ x ≤ 127) → ∀ j, j < k + 1 → -1 ≤ l.getD j 0 ∧ l.getD j 0 ≤ 127) := hide (fun x hx hr j hj => by
        by_cases e : j = k
        · subst e; rw [hx]; exact hr
        · exact hall.out j (by omega))
      have HN : Hid (∀ x, l.getD k 0 = x → ¬ (-1 ≤ x ∧ x ≤ 127) → decide (Od.Fo l) = false) := hide (fun x hx hr => decide_eq_false (fun q => hr (by rw [← hx]; exact q k hkl)))
      have hin : (k : Int) < (n : Int) := by omega
      clear hc hall
      generalize hx : l.getD k 0 = x at ck
      have HX2 := hide (HX.out x hx)
      have HN2 := hide (HN.out x hx)
      clear HX HN hx
      by_cases h1 : x < -1
      · have HN3 := hide (HN2.out (by omega))
        go_wp2
        go_ret
        exact ⟨ret_bool HN3.out.symm, rfl⟩
      · by_cases h2 : 127 < x
        · have HN3 := hide (HN2.out (by omega))
          go_wp2
          go_ret
          exact ⟨ret_bool HN3.out.symm, rfl⟩
        · have HX3 := hide (HX2.out ⟨by omega, by omega⟩)
          go_wp2
          go_roundw
          case rel => exact ⟨k + 1, by omega, by go_num, HX3, by first | rfl | trivial⟩
          case measure => simp [intOf]; omega
    · obtain rfl : k = n := by omega
      have hne : ¬ ((k : Int) < (k : Int)) := by omega
      have HF : Hid (decide (Od.Fo l) = true) := hide (decide_eq_true (fun i hi => hall.out i (by rw [HL.out] at hi; exact hi)))
      clear hall
      go_wp2
      go_ret
      exact ⟨ret_bool HF.out.symm, rfl⟩
theorem seen_any (ao : Option Addr) (n cap : Nat) (l : List Int) (w : World) (h : Row .i64 w ao n cap l) (hf : Od.Fo l) (hn : n * 8 ≤ 281474976702464) :
    Calls Tryz.prog 22 #[.slice ao n cap] w fun e w' => ∃ v, e = .returned v ∧ w'.ownsRow w.heap.size 3 1 v (Od.K l).length ((Od.Z (Od.K l)).map (Value.int .i64)) ∧ KO w w' := by
  obtain ⟨ii, hii, hy0, hy1, hy2⟩ := info_parts infoInt
  have HII : Hid (Tryz.prog.info? 3 = some ii) := hii
  have HY0 := hide hy0
  have HY1 := hide hy1
  have HY2 := hide hy2
  have H := hide h
  have HL := hide h.len
  have HF := hide hf
  have hn2 : n ≤ 35184372087808 := by omega
  clear h hf hii hy0 hy1 hy2
  go_enter Tryz.func22, Tryz.ntmps22
  go_wp2_with (at_make; refine wpList_make_own _ rfl _ _ 27 rfl w.heap.size 3 ii (.int .i64 0) 1 Tryz.underlying27 HII.out HY0.out HY1.out _ _ _ n rfl rfl rfl ?b2 ?b3 (Nat.le_refl _) ?_)
  case b2 => rw [HY2.out]; omega
  case b3 => unfold maxLen; omega
  intro w1 hown hgrow
  have hbel := (Below.refl w.heap.size w).grown hgrow (Nat.le_refl _) (fun _ h => by cases h)
  have HO : Hid (RG w (Od.Z (Od.KP l 0)) (Od.KP l 0).length (.slice (some ⟨w.heap.size, 0, none⟩) (Od.KP l 0).length n) w1) := hide ⟨by simpa [Od.KP, Od.Z] using hown, hbel⟩
  clear hown hgrow hbel
  go_wp2
  go_loopw [3, 4, 5, 11] (fun s3 s4 s5 i wr => ∃ k : Nat, s3 = .slice (some ⟨w.heap.size, 0, none⟩) ((Od.KP l k).length : Nat) n ∧ k ≤ n ∧ i = .int .i64 (k : Int) ∧ Hid (RG w (Od.Z (Od.KP l k)) (Od.KP l k).length (.slice (some ⟨w.heap.size, 0, none⟩) (Od.KP l k).length n) wr)) (fun _ _ _ i _ => n - (intOf i).toNat)
  case atStart => exact ⟨0, rfl, Nat.zero_le _, rfl, HO⟩
  case round =>
    obtain ⟨k, rfl, hk, rfl, hm⟩ := hrel
    by_cases hlt : k < n
    · obtain ⟨b, off, rfl, hbl, hc⟩ := H.out.cells (by omega)
      have hkl : k < l.length := by rw [HL.out]; exact hlt
      have ck : wr.cell? ⟨b, off + k, none⟩ = some (.int .i64 (l.getD k 0)) := (hm.out.bel.cell (by exact hbl)).trans (hc k hkl)
      have hin : (k : Int) < (n : Int) := by omega
      have hs := Od.sn_iff HF.out hkl
      have hkp := Od.KP_le l k
      clear hc
      by_cases h1 : l.getD k 0 = -1
      · have e1 : Od.KP l (k + 1) = Od.KP l k := Od.KP_out (by rw [← Bool.not_eq_true]; exact fun q => hs.1 q h1)
        have HM := hide (show RG w (Od.Z (Od.KP l (k + 1))) (Od.KP l (k + 1)).length (.slice (some ⟨w.heap.size, 0, none⟩) (Od.KP l (k + 1)).length n) wr from by rw [e1]; exact hm.out)
        have HE1 := hide e1
        rw [h1] at ck
        clear hm hs e1 h1
        go_wp2
        go_roundw
        case rel => exact ⟨k + 1, by rw [HE1.out], by omega, by go_num, HM⟩
        case measure => simp [intOf]; omega
      · have e1 : Od.KP l (k + 1) = Od.KP l k ++ [k] := Od.KP_in (hs.2 h1)
        have e2 : Od.Z (Od.KP l (k + 1)) = Od.Z (Od.KP l k) ++ [(k : Int)] := by rw [e1]; simp [Od.Z]
        have e3 : (Od.KP l (k + 1)).length = (Od.KP l k).length + 1 := by rw [e1]; simp
        have HW := hide hm.out
        have HE : Hid (∀ w2, RG w (Od.Z (Od.KP l k) ++ [(k : Int)]) ((Od.KP l k).length + 1) (.slice (some ⟨w.heap.size, 0, none⟩) ((Od.KP l k).length + 1) n) w2 → RG w (Od.Z (Od.KP l (k + 1))) (Od.KP l (k + 1)).length (.slice (some ⟨w.heap.size, 0, none⟩) (Od.KP l (k + 1)).length n) w2) := hide (fun w2 q => by rw [e2, e3]; exact q)
        have HE3 := hide e3
        have h1b : (l.getD k 0 != -1) = true := bne_iff_ne.2 h1
        clear hm hs e1 e2 e3
        generalize (Od.KP l k).length = L at *
        generalize Od.Z (Od.KP l k) = Y at *
        generalize l.getD k 0 = x at *
        go_wp2_with (at_builtin; refine wpList_append_spare _ rfl (.tmp 18) (.tmp 20) 27 rfl w.heap.size 3 ii Tryz.underlying27 HII.out HY1.out w.heap.size L n _ rfl (HW.out.own.alloc _) .i64 _ 1 1 [(k : Int)] rfl (row_one _ wr.heap.size rfl (k : Int)) (by omega) ?_; intro w2 hown2 hb2)
        have HM := hide (HE.out _ (RG.snoc HW.out.bel hb2 hown2 rfl))
        clear hown2 hb2 HE HW
        go_wp2
        go_roundw
        case rel => exact ⟨k + 1, by rw [HE3.out], by omega, by go_num, HM⟩
        case measure => simp [intOf]; omega
    · obtain rfl : k = n := by omega
      have hne : ¬ ((k : Int) < (k : Int)) := by omega
      have HKE : Hid (Od.KP l k = Od.K l) := hide (by rw [← HL.out]; rfl)
      have HM := hide (show RG w (Od.Z (Od.K l)) (Od.K l).length (.slice (some ⟨w.heap.size, 0, none⟩) (Od.K l).length k) wr from by
        have := hm.out
        rw [HKE.out] at this
        exact this)
      rw [HKE.out]
      clear hm
      go_wp2
      go_ret
      exact ⟨_, rfl, HM.out.own, HM.out.bel⟩
end Go.Proofs.YtmdmehopefgndaaGreatDoor

/- A scope in which the run jumps between several labels, onward or back: what holds at each, and one measure for all. -/
namespace Go.Proofs.YtmdmehopefgndaaGreatDoor
set_option linter.unusedVariables false
/-- What is asked where the run leaves a piece of a scope: at a jump to the label l, J l; else Q. -/
def hops (J : Nat → Act → World → Prop) (Q : Exit → Act → World → Prop) (e : Exit) (a : Act) (w : World) : Prop :=
  match e with
  | .goto l => J l a w
  | other => Q other a w
theorem wp_scope_hops {P : Program} {a : Act} {w : World} {Q : Exit → Act → World → Prop} {c : Code} (rest : Nat → Code) (J : Nat → Act → World → Prop) (μ : Act → Nat)
    (hf : ∀ l a w, J l a w → findLabel c l = some (rest l)) (first : c.wp P (hops J Q) a w)
    (pass : ∀ l a w, J l a w → (rest l).wp P (hops (fun l' a' w' => J l' a' w' ∧ μ a' < μ a) Q) a w) : (Code.scope c).wp P Q a w := by
  intro b k cs
  -- where a piece of the scope ends, if its jumps end
  have leave : ∀ (d : Code) (K : Nat → Act → World → Prop) (x : Act) (u : World), d.wp P (hops K Q) x u → (∀ l y v, K l y v → findLabel c l = some (rest l) ∧ ∃ e z t, Q e z t ∧ Arrives P (lone (b.at y (.code (rest l) :: .inScope c :: k)) cs v) b k cs e z t) →
      ∃ e z t, Q e z t ∧ Arrives P (lone (b.at x (.code d :: .inScope c :: k)) cs u) b k cs e z t := by
    intro d K x u hd hK
    obtain ⟨e, z, t, hq, arr⟩ := hd b (.inScope c :: k) cs
    match e, hq, arr with
    | .goto l, hq, arr =>
      obtain ⟨hl, e2, z2, t2, hq2, arr2⟩ := hK l z t hq
      exact ⟨e2, z2, t2, hq2, .of_steps (arr _ (by simp [gotoIn, hl])) arr2⟩
    | .normal, hq, arr => exact ⟨_, z, t, hq, Steps.trans arr (.one step_inScope)⟩
    | .exit id, hq, arr => exact ⟨_, z, t, hq, fun k2 hk2 => arr k2 (by simpa [exitTo] using hk2)⟩
    | .ret, hq, arr => exact ⟨_, z, t, hq, arr⟩
    | .panic ch, hq, arr => exact ⟨_, z, t, hq, arr⟩
    | .outgrown, hq, arr => exact ⟨_, z, t, hq, arr⟩
  have all : ∀ m l x u, μ x < m → J l x u → ∃ e z t, Q e z t ∧ Arrives P (lone (b.at x (.code (rest l) :: .inScope c :: k)) cs u) b k cs e z t := by
    intro m
    induction m with
    | zero => intro l x u hm; exact absurd hm (Nat.not_lt_zero _)
    | succ m ih => exact fun l x u hm hJ => leave _ _ x u (pass l x u hJ) fun l2 y v hK => ⟨hf l2 y v hK.1, ih l2 y v (by omega) hK.1⟩
  obtain ⟨e, z, t, hq, arr⟩ := leave c J a w first fun l y v hJ => ⟨hf l y v hJ, all _ l y v (Nat.lt_succ_self _) hJ⟩
  exact ⟨e, z, t, hq, .of_steps (.one step_scope) arr⟩
/-- The same for two labels. -/
theorem wp_scope_two {P : Program} {a : Act} {w : World} {Q : Exit → Act → World → Prop} {c r0 r1 : Code} (l0 l1 : Nat) (hne : ¬ l1 = l0) (J : Nat → Act → World → Prop) (μ : Act → Nat) (hJ : ∀ l a w, J l a w → l = l0 ∨ l = l1)
    (h0 : findLabel c l0 = some r0) (h1 : findLabel c l1 = some r1) (first : c.wp P (hops J Q) a w)
    (pass0 : ∀ a w, J l0 a w → r0.wp P (hops (fun l' a' w' => J l' a' w' ∧ μ a' < μ a) Q) a w)
    (pass1 : ∀ a w, J l1 a w → r1.wp P (hops (fun l' a' w' => J l' a' w' ∧ μ a' < μ a) Q) a w) : (Code.scope c).wp P Q a w := by
  refine wp_scope_hops (fun l => if l = l0 then r0 else r1) J μ (fun l x u h => ?_) first fun l x u h => ?_
  · rcases hJ l x u h with rfl | rfl
    · rw [if_pos rfl]; exact h0
    · rw [if_neg hne]; exact h1
  · rcases hJ l x u h with rfl | rfl
    · simp only [if_pos]; exact pass0 x u h
    · simp only [if_neg hne]; exact pass1 x u h
end Go.Proofs.YtmdmehopefgndaaGreatDoor
