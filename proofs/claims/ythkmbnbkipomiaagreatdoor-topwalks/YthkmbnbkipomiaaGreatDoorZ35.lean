import Derived.Test.YthkmbnbkipomiaaGreatDoorZ05
import Derived.Test.YthkmbnbkipomiaaGreatDoorZ26
import Derived.Test.YthkmbnbkipomiaaGreatDoorZ33
import Derived.Lib.AppendZeros
import Derived.Test.YthkmbnbkipomiaaGreatDoorZ34
import Derived.Test.YthkmbnbkipomiaaGreatDoorZ29
import Derived.Test.YthkmbnbkipomiaaGreatDoorZ28
/- slices.Grow of nothing; slices.Concat of two lists of numbers; which way a level leans. -/
namespace Go.Proofs.YthkmbnbkipomiaaGreatDoor
open Go.RowKit
set_option linter.unusedVariables false
set_option maxHeartbeats 2000000
set_option maxRecDepth 100000
theorem grow0_any (n : Nat) (h0 : 0 < n) (hn : n * 8 ≤ 281474976710656) (w : World) :
    Calls Tryz.prog 34 #[.slice none 0 0, .int .i64 (n : Int)] w fun e w' => ∃ c, e = .returned (.slice (some ⟨w.heap.size, 0, none⟩) 0 c) ∧ n ≤ c ∧ w'.ownsRow w.heap.size 3 1 (.slice (some ⟨w.heap.size, 0, none⟩) 0 c) 0 [] ∧ KO w w' := by
  obtain ⟨ii, hii, hy0, hy1, hy2⟩ := info_parts infoInt
  have hr := fun ty => Lib.run_append_nil_zeros (P := Tryz.prog) w 27 3 ty 3 ii (.int .i64 0) .i64 .i64 Tryz.underlying27 Tryz.underlying3 hii hy0 n h0 (by rw [hy1]; decide) (by omega) (by rw [hy2]; exact hn)
  have hge := grownCap_ge w n 0 3
  have hmx : grownCap w n 0 3 ≤ maxLen := grownCap_le_maxLen w n 0 3 (by unfold maxLen; omega)
  generalize hG : grownCap w n 0 3 = G at *
  have HO : Hid ((w.drew.alloc (.cells (Builtin.zeroCells (Value.int .i64 0).cells n ++ Builtin.zeroCells (Value.int .i64 0).cells (G - n)) 3)).ownsRow w.heap.size 3 1 (.slice (some ⟨w.heap.size, 0, none⟩) 0 G) 0 []) := hide (by
    refine ⟨rfl, .inr ⟨w.heap.size, G, _, rfl, Nat.le_refl _, heap_alloc_new w.drew _, Nat.zero_le _, hmx, ?_, ?_⟩⟩
    · rw [Array.size_append, size_zeroCells, size_zeroCells]
      show n * 1 + (G - n) * 1 = G * 1
      omega
    · simp)
  have HK : Hid (KO w (w.drew.alloc (.cells (Builtin.zeroCells (Value.int .i64 0).cells n ++ Builtin.zeroCells (Value.int .i64 0).cells (G - n)) 3))) := hide (KO.alloc (KO.drew (KO.refl w)) _)
  unfold maxLen at hmx
  clear hG hii hy0 hy1 hy2
  generalize w.drew.alloc (.cells (Builtin.zeroCells (Value.int .i64 0).cells n ++ Builtin.zeroCells (Value.int .i64 0).cells (G - n)) 3) = W at *
  have hn0 : ¬ (n : Int) < 0 := by omega
  have hn1 : (n : Int) > 0 := by omega
  go_enter Tryz.func34, Tryz.ntmps34
  go_wp2_with (at_builtin; refine Lib.wpList_append_run _ rfl _ _ _ _ rfl _ _ rfl rfl _ _ (hr _) ?_)
  go_ret
  exact ⟨_, rfl, hge, HO.out, HK.out⟩
/-- An append of a list to an empty row with room: the list is nil or not. -/
theorem wpList_append_into {P : Program} (w : World) {ops : Array Oper} {rest : List Oper} {o : Oper} {a : Act} {Q : Exit → Act → World → Prop} (hw : Region.wanted o (yielded ops a.tmps) = true) (s x : Operand) (t : TypeId)
    (ho : o.op = .call { callee := .builtin .append, args := #[s, x], argTypes := #[t, t] })
    (base : Nat) (e : TypeId) (i : TypeInfo) (z : Value) (ht : P.underlying t = some (.slice e)) (hi : P.info? e = some i) (hz : i.zero = some z) (hsize : i.size = 1) (hby : i.bytes = 8) (hzs : z.cells.size = 1)
    (g n cap : Nat) (xs : List Value) (hs : a.eval s = .slice (some ⟨g, 0, none⟩) n cap) (hown : w.ownsRow base e 1 (.slice (some ⟨g, 0, none⟩) n cap) n xs) (hn : n * 8 ≤ 140737488355328) (hbase : base ≤ w.heap.size)
    (k : IntKind) (ao : Option Addr) (m c : Nat) (zs : List Int) (hx : a.eval x = .slice ao m c) (hrow : Row k w ao m c zs) (hroom : n + m ≤ cap)
    (h : ∀ w', w'.ownsRow base e 1 (.slice (some ⟨g, 0, none⟩) (n + m) cap) (n + m) (xs ++ zs.map (Value.int k)) → Below base w w' → wpList P ops Q rest (a.put o.dst (.slice (some ⟨g, 0, none⟩) (n + m) cap)) w') : wpList P ops Q (o :: rest) a w := by
  cases ao with
  | some ad => exact wpList_append_spare w hw s x t ho base e i ht hi hsize g n cap xs hs hown k ad m c zs hx hrow hroom h
  | none =>
    have hc := hrow.nil rfl
    have hm : m = 0 := by have := hrow.le; omega
    subst hc hm
    have hzs0 : zs = [] := List.length_eq_zero_iff.1 hrow.len
    subst hzs0
    have hrun := run_append_owned_none (P := P) (w := w) base t o.type e i 1 ht hi _ n xs hown
    have hK := h w (by simpa using hown) (Below.refl _ _)
    refine BigFrame.wpList_want hw fun K hK' => ?_
    unfold Oper.wp
    simp [execOp, ho, resolve, invoke, builtin, hs, hx, hrun, Result.andThen]
    exact hK' _ _ hK
theorem concat2_any (g : Nat) (ao bo : Option Addr) (n m cap cb : Nat) (l k : List Int) (w : World) (hg : g < w.heap.size) (c0 : w.cell? ⟨g, 0, none⟩ = some (.slice ao n cap)) (c1 : w.cell? ⟨g, 1, none⟩ = some (.slice bo m cb)) (h0 : Row .i64 w ao n cap l) (h1 : Row .i64 w bo m cb k) (hs : (n + m) * 8 ≤ 281474976710656) (hp : 0 < n + m) (hn : n * 8 ≤ 140737488355328) (hm : m * 8 ≤ 140737488355328) :
    Calls Tryz.prog 18 #[.slice (some ⟨g, 0, none⟩) 2 2] w fun e w' => ∃ a c, e = .returned (.slice a (n + m) c) ∧ w'.ownsRow w.heap.size 3 1 (.slice a (n + m) c) (n + m) ((l ++ k).map (Value.int .i64)) ∧ KO w w' := by
  obtain ⟨ii, hii, hy0, hy1, hy2⟩ := info_parts infoInt
  have HII : Hid (Tryz.prog.info? 3 = some ii) := hii
  have HY0 := hide hy0
  have HY1 := hide hy1
  have HY2 := hide hy2
  have HG := hide (grow0_any (n + m) hp hs w)
  have H0 := hide h0
  have H1 := hide h1
  have HGS := hide hg
  have C0 := hide c0
  have C1 := hide c1
  have hsum : ((n + m : Nat) : Int) = (n : Int) + (m : Int) := by omega
  rw [hsum] at HG
  have hb1 : (n : Int) + (m : Int) ≤ 35184372088832 := by omega
  have hb2 : ¬ (n : Int) + (m : Int) < 0 := by omega
  have hb3 : ¬ (n : Int) < 0 := by omega
  clear hii hy0 hy1 hy2 h0 h1 hsum
  go_enter Tryz.func18, Tryz.ntmps18
  go_wp2
  refine wp_loop_rounds 3 ?_
  rw [rounds_succ]
  go_wp2
  rw [rounds_succ]
  go_wp2
  rw [rounds_succ]
  go_wp2_with (go_at_call 34; refine HG.out.mono ?_; rintro e w1 ⟨c, rfl, hc, ho1, hk1⟩)
  have d0 := (Below.cell hk1 (by exact HGS.out)).trans C0.out
  have d1 := (Below.cell hk1 (by exact HGS.out)).trans C1.out
  have O1 := hide ho1
  have K1 := hide hk1
  clear ho1 hk1 c0 c1
  go_wp2
  have R0 := hide (H0.out.below K1.out)
  refine wp_loop_rounds 3 ?_
  rw [rounds_succ]
  go_wp2_with (at_builtin; refine wpList_append_into _ rfl (.tmp 31) (.tmp 32) 27 rfl w.heap.size 3 ii (.int .i64 0) Tryz.underlying27 HII.out HY0.out HY1.out HY2.out rfl w.heap.size 0 c [] rfl O1.out (by omega) K1.out.size .i64 ao n cap l rfl R0.out (by omega) ?_)
  intro w2 ho2 hb2'
  have K2 := hide (show KO w w2 from Below.trans K1.out hb2')
  have e1 := (Below.cell K2.out (by exact HGS.out)).trans C1.out
  have R1 := hide (H1.out.below K2.out)
  have O2 := hide ho2
  clear ho2 hb2' d0 d1
  go_wp2
  rw [rounds_succ]
  go_wp2_with (at_builtin; refine wpList_append_into _ rfl (.tmp 31) (.tmp 32) 27 rfl w.heap.size 3 ii (.int .i64 0) Tryz.underlying27 HII.out HY0.out HY1.out HY2.out rfl w.heap.size n c _ rfl O2.out (by omega) K2.out.size .i64 bo m cb k rfl R1.out (by omega) ?_)
  intro w3 ho3 hb3'
  have K3 := hide (show KO w w3 from Below.trans K2.out hb3')
  have O3 := hide ho3
  clear ho3 hb3' e1
  go_wp2
  rw [rounds_succ]
  go_wp2
  go_ret
  have h9 := O3.out
  rw [← List.map_append] at h9
  exact ⟨_, _, rfl, h9, K3.out⟩
end Go.Proofs.YthkmbnbkipomiaaGreatDoor

/- Spots, by contract. -/
namespace Go.Proofs.YthkmbnbkipomiaaGreatDoor
open Go.RowKit
set_option linter.unusedVariables false
set_option maxHeartbeats 1600000
set_option maxRecDepth 100000
namespace Spt
/-- The spots of the first k stops. -/
def S1 (a : List Int) (k : Nat) : List (Int × Int) := (List.range a.length).map fun i => if Od.sn a i = true ∧ co a i < (k : Int) then (co a i, 1 - 2 * (a.getD i 0 % 2)) else (0, 0)
theorem S1_len (a : List Int) (k : Nat) : (S1 a k).length = a.length := by simp [S1]
theorem S1_zero {a : List Int} (hf : Od.Fo a) : S1 a 0 = List.replicate a.length (0, 0) := List.ext_getElem (by simp [S1]) fun i h1 h2 => by
  simp only [S1, List.getElem_map, List.getElem_range, List.getElem_replicate]
  rw [if_neg]
  rintro ⟨q1, q2⟩
  obtain ⟨c, _, _, e⟩ := co_seen hf q1
  omega
theorem S1_set {a : List Int} (hf : Od.Fo a) {k : Nat} (hk : k < (Od.OD a).length) : (S1 a k).set ((Od.OD a).getD k 0) ((k : Int), 1 - 2 * (a.getD ((Od.OD a).getD k 0) 0 % 2)) = S1 a (k + 1) := by
  have hs := ((Od.OD_vis hf).mem _).1 (Od.OD_in hk)
  have hc := co_at hf hk
  refine List.ext_getElem (by simp [S1]) fun i h1 h2 => ?_
  rw [List.getElem_set]
  simp only [S1, List.getElem_map, List.getElem_range]
  by_cases h : (Od.OD a).getD k 0 = i
  · rw [if_pos h, ← h, hc, if_pos ⟨hs, by omega⟩]
  · rw [if_neg h]
    by_cases q : Od.sn a i = true
    · obtain ⟨c, e1, e2, e3⟩ := co_seen hf q
      have hne : ¬ c = k := fun e => h (by rw [← e]; exact e2)
      by_cases hlt : co a i < (k : Int)
      · rw [if_pos ⟨q, hlt⟩, if_pos ⟨q, by omega⟩]
      · rw [if_neg (fun z => hlt z.2), if_neg (fun z => by have := z.2; omega)]
    · rw [if_neg (fun z => q z.1), if_neg (fun z => q z.1)]
/-- The spots of all stops, and of the places from p on. -/
def S2 (a : List Int) (p : Nat) : List (Int × Int) := (List.range a.length).map fun i => if p ≤ i ∨ Od.sn a i = true then sp a i else (0, 0)
theorem S2_len (a : List Int) (k : Nat) : (S2 a k).length = a.length := by simp [S2]
theorem sp_seen {a : List Int} (he : End a) {i : Nat} (hs : Od.sn a i = true) : sp a i = (co a i, 1 - 2 * (a.getD i 0 % 2)) := by
  have h := Od.sn_at hs
  have := (nx_self he h.1).2 h.2
  unfold sp ln
  rw [this, if_pos rfl]
theorem S1_S2 {a : List Int} (hf : Od.Fo a) (he : End a) {n : Nat} (hn : a.length = n + 1) : S1 a (Od.OD a).length = S2 a n := by
  refine List.ext_getElem (by simp [S1, S2]) fun i h1 h2 => ?_
  rw [S1_len] at h1
  simp only [S1, S2, List.getElem_map, List.getElem_range]
  have hl : n ≤ i → Od.sn a i = true := fun h => by
    have e : i = a.length - 1 := by omega
    rw [e]
    exact Od.sn_of he.2 (by omega)
  by_cases q : Od.sn a i = true
  · obtain ⟨c, e1, e2, e3⟩ := co_seen hf q
    rw [if_pos ⟨q, by omega⟩, if_pos (.inr q), sp_seen he q]
  · rw [if_neg (fun z => q z.1), if_neg (fun z => z.elim (fun h => q (hl h)) q)]
theorem S2_end (a : List Int) : S2 a 0 = SP a := by
  unfold S2 SP
  refine List.map_congr_left fun i hi => ?_
  rw [if_pos (.inl (Nat.zero_le _))]
theorem S2_keep {a : List Int} {p : Nat} (h : Od.sn a p = true) : S2 a (p + 1) = S2 a p := by
  unfold S2
  refine List.map_congr_left fun i hi => ?_
  by_cases e : i = p
  · subst e; rw [if_pos (.inr h), if_pos (.inr h)]
  · by_cases q : p + 1 ≤ i ∨ Od.sn a i = true
    · rw [if_pos q, if_pos (q.imp (by omega) id)]
    · rw [if_neg q, if_neg (fun z => q (z.imp (by omega) id))]
theorem sp_skip {a : List Int} (he : End a) {p : Nat} (hp : p + 1 < a.length) (h : a.getD p 0 < 0) : sp a p = ((sp a (p + 1)).1, 0) := by
  obtain ⟨h1, h2, h3, h4⟩ := nx_ok he hp
  have e : nx a p = nx a (p + 1) := nx_unique he (by omega) (by omega) (Od.sn_at h3).2 fun j g1 g2 => by
    by_cases q : j = p
    · subst q; exact h
    · exact h4 j (by omega) g2
  unfold sp ln
  rw [e, if_neg (by omega)]
theorem S2_at {a : List Int} {p i : Nat} (h : i < a.length) (hp : p ≤ i) : (S2 a p).getD i (0, 0) = sp a i := by simp [S2, List.getD, h, hp]
theorem S2_set {a : List Int} (he : End a) {p : Nat} (hp : p + 1 < a.length) (h : a.getD p 0 < 0) : (S2 a (p + 1)).set p (((S2 a (p + 1)).getD (p + 1) (0, 0)).1, 0) = S2 a p := by
  rw [S2_at hp (Nat.le_refl _), ← sp_skip he hp h]
  refine List.ext_getElem (by simp [S2]) fun i h1 h2 => ?_
  rw [List.getElem_set]
  simp only [S2, List.getElem_map, List.getElem_range]
  by_cases e : p = i
  · subst e; rw [if_pos rfl, if_pos (.inl (Nat.le_refl _))]
  · rw [if_neg e]
    by_cases q : p + 1 ≤ i ∨ Od.sn a i = true
    · rw [if_pos q, if_pos (q.imp (by omega) id)]
    · rw [if_neg q, if_neg (fun z => q (z.imp (by omega) id))]
end Spt
theorem lean_any (lv : Int) (w : World) (h0 : 0 ≤ lv) (h1 : lv ≤ 127) : Calls Tryz.prog 20 #[.int .i64 lv] w fun e w' => e = .returned (.float .f64 (Fl.fb (1 - 2 * (lv % 2)))) ∧ w = w' := by
  have e : Fl.fb (1 - 2 * (lv % 2)) = floatOfInt .f64 (1 - 2 * (lv % 2)) := rfl
  rw [e]
  clear e
  obtain ⟨q, hq⟩ : ∃ q, lv % 2 = q := ⟨_, rfl⟩
  have hq1 : 0 ≤ q := by omega
  have hq2 : q ≤ 1 := by omega
  rw [hq]
  go_enter Tryz.func20, Tryz.ntmps20
  go_wp2
  go_ret
  exact ⟨rfl, rfl⟩
/-- What Spots answers. -/
def SPA (l : List Int) (b : Int) (Z : List (Int × Int)) (E : Int) : Prop := (((b = 0 ∨ b = 1) ∧ Od.Fo l) ∧ Z = Spt.SP (Spt.al l b) ∧ E = 0) ∨ (¬ ((b = 0 ∨ b = 1) ∧ Od.Fo l) ∧ Z = [] ∧ E = 2)
theorem SPA_some (l : List Int) (b : Int) : ∃ Z E, SPA l b Z E := by
  by_cases h : (b = 0 ∨ b = 1) ∧ Od.Fo l
  · exact ⟨_, _, .inl ⟨h, rfl, rfl⟩⟩
  · exact ⟨_, _, .inr ⟨h, rfl, rfl⟩⟩
theorem spots_ok (ao : Option Addr) (n cap : Nat) (l : List Int) (b : Int) (w : World) (h : Row .i64 w ao n cap l) (hb : b = 0 ∨ b = 1) (hf : Od.Fo l) (hn : n * 8 ≤ 140737488351232) :
    Calls Tryz.prog 7 #[.slice ao n cap, .int .i64 b] w fun e w' => ∃ g, e = .returned (.tuple #[.slice (some ⟨g, 0, none⟩) (n + 1) (n + 1), .int .i64 0]) ∧ ZR w' (some ⟨g, 0, none⟩) (n + 1) (n + 1) (Spt.SP (Spt.al l b)) ∧ KO w w' := by
  have hl := h.len
  have hfa := (Spt.al_fo hb).2 hf
  have hea := Spt.al_endE (l := l) hb
  have hal : (Spt.al l b).length = n + 1 := by rw [Spt.al_len, hl]
  have hAT : ∀ i, i < n → (Spt.al l b).getD i 0 = l.getD i 0 := fun i hi => Spt.al_at (by omega)
  obtain ⟨a, ha⟩ : ∃ a, Spt.al l b = a := ⟨_, rfl⟩
  have hcat : l ++ [b] = a := ha
  rw [ha] at hfa hea hal hAT ⊢
  have ka : KO w (w.alloc (.cells #[.int .i64 b] 3)) := KO.alloc (KO.refl w) _
  have hs1 : (w.alloc (.cells #[.int .i64 b] 3)).heap.size = w.heap.size + 1 := by simp
  have hrb := row_lit .i64 w [b] 3 (by unfold maxLen; simp)
  obtain ⟨w1, hw1⟩ : ∃ w1, w.alloc (.cells #[.int .i64 b] 3) = w1 := ⟨_, rfl⟩
  have hw1' : w.alloc (.cells (#[Value.int .i64 b]) 3) = w1 := hw1
  rw [hw1] at ka hs1
  have hrb1 : Row .i64 w1 (some ⟨w.heap.size, 0, none⟩) 1 1 [b] := by rw [← hw1]; exact hrb
  have kb : KO w1 (w1.alloc (.cells #[.slice ao n cap, .slice (some ⟨w.heap.size, 0, none⟩) 1 1] 27)) := KO.alloc (KO.refl w1) _
  have c0 : (w1.alloc (.cells #[.slice ao n cap, .slice (some ⟨w.heap.size, 0, none⟩) 1 1] 27)).cell? ⟨w1.heap.size, 0, none⟩ = some (.slice ao n cap) := by rw [World.cell?_alloc_mark]; rfl
  have c1 : (w1.alloc (.cells #[.slice ao n cap, .slice (some ⟨w.heap.size, 0, none⟩) 1 1] 27)).cell? ⟨w1.heap.size, 1, none⟩ = some (.slice (some ⟨w.heap.size, 0, none⟩) 1 1) := by rw [World.cell?_alloc_mark]; rfl
  have hs2 : (w1.alloc (.cells #[.slice ao n cap, .slice (some ⟨w.heap.size, 0, none⟩) 1 1] 27)).heap.size = w1.heap.size + 1 := by simp
  obtain ⟨w2, hw2⟩ : ∃ w2, w1.alloc (.cells #[.slice ao n cap, .slice (some ⟨w.heap.size, 0, none⟩) 1 1] 27) = w2 := ⟨_, rfl⟩
  rw [hw2] at kb c0 c1 hs2
  have HC := hide (concat2_any w1.heap.size ao (some ⟨w.heap.size, 0, none⟩) n 1 cap 1 l [b] w2 (by omega) c0 c1 ((h.below ka).below kb) (hrb1.below kb) (by omega) (by omega) (by omega) (by omega))
  rw [hcat] at HC
  have HK2 := hide (KO.on ka kb)
  have HFA := hide hfa
  have HEA := hide hea
  have HAL := hide hal
  have HL := hide hl
  have HAT := hide hAT
  have H0 := hide h
  have HO := hide (fun (x : Option Addr) (c : Nat) (W : World) (hr : Row .i64 W x (n + 1) c a) => order_ok x (n + 1) c a W hr hfa (by omega))
  have HML : Hid ((Od.OD a).length ≤ n + 1) := hide (by have := Od.K_le a; rw [Od.OD_len]; omega)
  have HBD : Hid (∀ i, i < n + 1 → -1 ≤ a.getD i 0 ∧ a.getD i 0 ≤ 127) := hide fun i hi => hfa i (by omega)
  obtain ⟨ii, hii, hy0, hy1, hy2⟩ := info_parts infoC
  have HII : Hid (Tryz.prog.info? 55 = some ii) := hii
  have HY0 := hide hy0
  have HY1 := hide hy1
  have HY2 := hide hy2
  have hb0 : ¬ b < 0 := by omega
  have hb1 : ¬ 1 < b := by omega
  clear hfa hea hal hAT hl hf hb h ka kb c0 c1 hs1 hs2 hrb hrb1 hcat ha hii hy0 hy1 hy2 hw1'
  go_enter Tryz.func7, Tryz.ntmps7
  go_wp2_with (go_at_call 18; refine HC.out.mono ?_; rintro e w3 ⟨x3, c3, rfl, ho3, hk3⟩)
  have hr3 : Row .i64 w3 x3 (n + 1) c3 a := by
    obtain ⟨y, d, e, hr⟩ := row_of_owns ho3
    simp only [Value.slice.injEq] at e
    obtain ⟨rfl, _, rfl⟩ := e
    exact hr
  have HO3 := hide (HO.out _ _ _ hr3)
  have R3 := hide hr3
  have K3 := hide (KO.on HK2.out hk3)
  clear hr3 hk3 ho3 HO HC hw1 hw2 HK2
  refine HO3.out.mono ?_
  rintro e w4 ⟨v4, rfl, ho4, hk4⟩
  obtain ⟨x4, c4, ev, hr4⟩ := row_of_owns ho4
  subst ev
  have R4 := hide hr4
  have K4 := hide (KO.on K3.out hk4)
  have R3' := hide (R3.out.below hk4)
  clear hr4 hk4 ho4 HO3 K3 R3
  obtain ⟨m, hm⟩ : ∃ m, (Od.OD a).length = m := ⟨_, rfl⟩
  have HM := hide hm
  rw [hm] at R4 HML ⊢
  clear hm
  have hmn : m ≤ n + 1 := HML.out
  have hn2 : n ≤ 17592186044416 := by omega
  go_wp2_with (at_make; refine wpList_make_full _ rfl _ _ 32 rfl w4.heap.size 55 ii (.complex .f64 0 0) 1 Tryz.underlying32 HII.out HY0.out HY1.out _ _ _ _ (n + 1) (by first | rfl | go_num) (by first | rfl | go_num) rfl rfl ?b2 ?b3 (Nat.le_refl _) ?_)
  case b2 => rw [HY2.out]; omega
  case b3 => unfold maxLen; omega
  intro w5 hown hgrow
  have hbel := (Below.refl w4.heap.size w4).grown hgrow (Nat.le_refl _) (fun _ h => by cases h)
  have HV : Hid (VN (cv Fl.fb) (0, 0) 55 w4 (n + 1) (Spt.S1 a 0) w5) := hide (by
    rw [Spt.S1_zero HFA.out, HAL.out]
    exact VN.made (f := cv Fl.fb) (z := (0, 0)) (by rw [show cv Fl.fb (0, 0) = Value.complex .f64 0 0 from by unfold cv; rw [Fl.fb_zero]]; exact hown) hbel)
  clear hown hgrow hbel
  go_wp2
  go_loopw [37] (fun s37 W => ∃ k : Nat, s37 = .int .i64 (k : Int) ∧ k ≤ m ∧ Hid (VN (cv Fl.fb) (0, 0) 55 w4 (n + 1) (Spt.S1 a k) W)) (fun s37 _ => m - (intOf s37).toNat)
  case atStart => exact ⟨0, rfl, Nat.zero_le _, HV⟩
  case round =>
    clear HV
    obtain ⟨k, rfl, hk, hv⟩ := hrel
    by_cases hlt : k < m
    · have hin : (k : Int) < (m : Int) := by omega
      obtain ⟨b4, o4, rfl, hb4, hc4⟩ := R4.out.cells (by omega)
      obtain ⟨b3, o3, rfl, hb3, hc3⟩ := R3'.out.cells (by omega)
      have hkm : k < (Od.OD a).length := by rw [HM.out]; exact hlt
      have ck := (Below.cell hv.out.bel (by exact hb4)).trans (hc4 k (by rw [Od.ON_len]; exact hkm))
      rw [Od.ON_at hkm] at ck
      have hset := hv.out.set ((Od.OD a).getD k 0) ((k : Int), 1 - 2 * (a.getD ((Od.OD a).getD k 0) 0 % 2))
      rw [Spt.S1_set HFA.out hkm] at hset
      have hpl := Od.OD_lt HFA.out (Od.OD_in hkm)
      rw [HAL.out] at hpl
      have hsn := (Od.sn_at (((Od.OD_vis HFA.out).mem _).1 (Od.OD_in hkm))).2
      generalize (Od.OD a).getD k 0 = p at *
      have hpi : (p : Int) < ((n + 1 : Nat) : Int) := by omega
      have hpi2 : (p : Int) < (n : Int) + 1 := by omega
      have cp := (Below.cell hv.out.bel (by exact hb3)).trans (hc3 p (by rw [HAL.out]; exact hpl))
      have HLN := hide (lean_any (a.getD p 0) wr hsn (HBD.out p hpl).2)
      have co := hv.out.cell hpl
      have fo := hv.out.fz p
      unfold cv at hset co
      have hcv : floatOfInt .f64 (k : Int) = Fl.fb (k : Int) := rfl
      generalize Fl.fb (1 - 2 * (a.getD p 0 % 2)) = Y at *
      generalize a.getD p 0 = ap at *
      generalize Fl.fb (k : Int) = X at *
      generalize Fl.fb ((Spt.S1 a k).getD p (0, 0)).1 = X0 at *
      generalize Fl.fb ((Spt.S1 a k).getD p (0, 0)).2 = Y0 at *
      have HS := hide hset
      have hst := store_complex (P := Tryz.prog) co fo .f64 X Y
      clear hv hset hc3 hc4 hkm hsn
      go_wp2_with (go_at_call 20; refine HLN.out.mono ?_; rintro e w' ⟨rfl, rfl⟩)
      go_roundw
      case rel => exact ⟨k + 1, by go_num, by omega, HS⟩
      case measure => simp [intOf]; omega
    · obtain rfl : m = k := by omega
      have hne : ¬ (m : Int) < (m : Int) := by omega
      have HV2 : Hid (VN (cv Fl.fb) (0, 0) 55 w4 (n + 1) (Spt.S2 a n) wr) := hide (by
        have := hv.out
        rw [← HM.out, Spt.S1_S2 HFA.out HEA.out HAL.out] at this
        exact this)
      clear hv
      go_wp2
      go_loopw [12] (fun s12 W => ∃ (p : Nat) (z : Int), s12 = .int .i64 z ∧ Hid (z = (p : Int) - 1) ∧ p ≤ n ∧ Hid (VN (cv Fl.fb) (0, 0) 55 w4 (n + 1) (Spt.S2 a p) W)) (fun s12 _ => (intOf s12 + 1).toNat)
      case atStart => exact ⟨n, _, rfl, hide rfl, Nat.le_refl _, HV2⟩
      case round =>
        clear HV2
        obtain ⟨p, z, rfl, hz, hp, hv⟩ := hrel
        cases p with
        | zero =>
          obtain rfl : z = -1 := by have := hz.out; omega
          have hzn : ¬ (0 : Int) ≤ -1 := by omega
          have HE := hide (show ZR wr (some ⟨w4.heap.size, 0, none⟩) (n + 1) (n + 1) (Spt.SP a) from by
            have := hv.out.row
            rw [Spt.S2_end] at this
            exact this)
          have HB := hide (KO.on K4.out hv.out.bel)
          clear hv
          go_wp2
          go_ret2
          exact ⟨_, rfl, HE.out, HB.out⟩
        | succ q =>
          obtain rfl : z = (q : Int) := by have := hz.out; omega
          have hzn : (0 : Int) ≤ (q : Int) := by omega
          have hqn : (q : Int) < (n : Int) := by omega
          have hqn2 : (q : Int) + 1 < (n : Int) + 1 := by omega
          have hqn3 : (q : Int) < (n : Int) + 1 := by omega
          obtain ⟨bl, ol, rfl, hbl, hcl⟩ := H0.out.cells (by omega)
          have cl := (Below.cell (KO.on K4.out hv.out.bel) (by exact hbl)).trans (hcl q (by rw [HL.out]; omega))
          rw [← HAT.out q (by omega)] at cl
          have hbd := HBD.out q (by omega)
          by_cases hun : a.getD q 0 = -1
          · rw [hun] at cl
            have hset := hv.out.set q (((Spt.S2 a (q + 1)).getD (q + 1) (0, 0)).1, 0)
            rw [Spt.S2_set HEA.out (by rw [HAL.out]; omega) (by rw [hun]; decide)] at hset
            have c1 := hv.out.cell (show q + 1 < n + 1 by omega)
            have co := hv.out.cell (show q < n + 1 by omega)
            have fo := hv.out.fz q
            unfold cv at hset co c1
            simp only [Fl.fb_zero] at hset
            generalize Fl.fb ((Spt.S2 a (q + 1)).getD (q + 1) (0, 0)).1 = X at *
            generalize Fl.fb ((Spt.S2 a (q + 1)).getD (q + 1) (0, 0)).2 = Y at *
            generalize Fl.fb ((Spt.S2 a (q + 1)).getD q (0, 0)).1 = X0 at *
            generalize Fl.fb ((Spt.S2 a (q + 1)).getD q (0, 0)).2 = Y0 at *
            have HS := hide hset
            have hst := store_complex (P := Tryz.prog) co fo .f64 X 0
            clear hv hset hcl hun hbd
            go_wp2
            go_roundw
            case rel => exact ⟨q, _, rfl, hide rfl, by omega, HS⟩
            case measure => simp [intOf]
          · have hs : Od.sn a q = true := Od.sn_of (by omega) (by rw [HAL.out]; omega)
            have HS : Hid (VN (cv Fl.fb) (0, 0) 55 w4 (n + 1) (Spt.S2 a q) wr) := hide (by rw [← Spt.S2_keep hs]; exact hv.out)
            have hub : (a.getD q 0 == -1) = false := beq_eq_false_iff_ne.2 hun
            generalize a.getD q 0 = y at *
            clear hv hcl hbd hs
            go_wp2
            go_roundw
            case rel => exact ⟨q, _, rfl, hide rfl, by omega, HS⟩
            case measure => simp [intOf]
theorem spots_any (ao : Option Addr) (n cap : Nat) (l : List Int) (b : Int) (w : World) (h : Row .i64 w ao n cap l) (hn : n * 8 ≤ 140737488351232) (Z : List (Int × Int)) (E : Int) (hA : SPA l b Z E) :
    Calls Tryz.prog 7 #[.slice ao n cap, .int .i64 b] w fun e w' => ∃ x c, e = .returned (.tuple #[.slice x Z.length c, .int .i64 E]) ∧ ZR w' x Z.length c Z ∧ KO w w' := by
  rcases hA with ⟨⟨hb, hf⟩, rfl, rfl⟩ | ⟨hno, rfl, rfl⟩
  · refine (spots_ok ao n cap l b w h hb hf hn).mono ?_
    rintro e w' ⟨g, rfl, hz, hk⟩
    have e : (Spt.SP (Spt.al l b)).length = n + 1 := by rw [Spt.SP_len, Spt.al_len, h.len]
    rw [e]
    exact ⟨_, _, rfl, hz, hk⟩
  · by_cases h0 : b < 0
    · clear h hno
      go_enter Tryz.func7, Tryz.ntmps7
      go_wp2
      go_ret2
      exact ⟨none, 0, rfl, VR.none_ _, KO.refl _⟩
    by_cases h1 : 1 < b
    · clear h hno
      go_enter Tryz.func7, Tryz.ntmps7
      go_wp2
      go_ret2
      exact ⟨none, 0, rfl, VR.none_ _, KO.refl _⟩
    · have hb : b = 0 ∨ b = 1 := by omega
      have hf : ¬ Od.Fo l := fun q => hno ⟨hb, q⟩
      have hfa : ¬ Od.Fo (Spt.al l b) := fun q => hf ((Spt.al_fo hb).1 q)
      obtain ⟨a, ha⟩ : ∃ a, Spt.al l b = a := ⟨_, rfl⟩
      have hcat : l ++ [b] = a := ha
      rw [ha] at hfa
      have ka : KO w (w.alloc (.cells #[.int .i64 b] 3)) := KO.alloc (KO.refl w) _
      have hs1 : (w.alloc (.cells #[.int .i64 b] 3)).heap.size = w.heap.size + 1 := by simp
      have hrb := row_lit .i64 w [b] 3 (by unfold maxLen; simp)
      obtain ⟨w1, hw1⟩ : ∃ w1, w.alloc (.cells #[.int .i64 b] 3) = w1 := ⟨_, rfl⟩
      rw [hw1] at ka hs1
      have hrb1 : Row .i64 w1 (some ⟨w.heap.size, 0, none⟩) 1 1 [b] := by rw [← hw1]; exact hrb
      have kb : KO w1 (w1.alloc (.cells #[.slice ao n cap, .slice (some ⟨w.heap.size, 0, none⟩) 1 1] 27)) := KO.alloc (KO.refl w1) _
      have c0 : (w1.alloc (.cells #[.slice ao n cap, .slice (some ⟨w.heap.size, 0, none⟩) 1 1] 27)).cell? ⟨w1.heap.size, 0, none⟩ = some (.slice ao n cap) := by rw [World.cell?_alloc_mark]; rfl
      have c1 : (w1.alloc (.cells #[.slice ao n cap, .slice (some ⟨w.heap.size, 0, none⟩) 1 1] 27)).cell? ⟨w1.heap.size, 1, none⟩ = some (.slice (some ⟨w.heap.size, 0, none⟩) 1 1) := by rw [World.cell?_alloc_mark]; rfl
      have hs2 : (w1.alloc (.cells #[.slice ao n cap, .slice (some ⟨w.heap.size, 0, none⟩) 1 1] 27)).heap.size = w1.heap.size + 1 := by simp
      obtain ⟨w2, hw2⟩ : ∃ w2, w1.alloc (.cells #[.slice ao n cap, .slice (some ⟨w.heap.size, 0, none⟩) 1 1] 27) = w2 := ⟨_, rfl⟩
      rw [hw2] at kb c0 c1 hs2
      have HC := hide (concat2_any w1.heap.size ao (some ⟨w.heap.size, 0, none⟩) n 1 cap 1 l [b] w2 (by omega) c0 c1 ((h.below ka).below kb) (hrb1.below kb) (by omega) (by omega) (by omega) (by omega))
      rw [hcat] at HC
      have HK2 := hide (KO.on ka kb)
      have HO := hide (fun (x : Option Addr) (c : Nat) (W : World) (hr : Row .i64 W x (n + 1) c a) => order_bad x (n + 1) c a W hr hfa)
      have hb0 : ¬ b < 0 := by omega
      clear hfa hf hb hno h ka kb c0 c1 hs1 hs2 hrb hrb1 hcat ha
      go_enter Tryz.func7, Tryz.ntmps7
      go_wp2_with (go_at_call 18; refine HC.out.mono ?_; rintro e w3 ⟨x3, c3, rfl, ho3, hk3⟩)
      have hr3 : Row .i64 w3 x3 (n + 1) c3 a := by
        obtain ⟨y, d, e, hr⟩ := row_of_owns ho3
        simp only [Value.slice.injEq] at e
        obtain ⟨rfl, _, rfl⟩ := e
        exact hr
      have HO3 := hide (HO.out _ _ _ hr3)
      have K3 := hide (KO.on HK2.out hk3)
      clear hr3 hk3 ho3 HO HC hw1 hw2 HK2
      refine HO3.out.mono ?_
      rintro e w4 ⟨rfl, rfl⟩
      go_wp2
      go_ret2
      exact ⟨none, 0, rfl, VR.none_ _, K3.out⟩
/-- The columns of a line's spots are small. -/
theorem SP_wz {a : List Int} (hf : Od.Fo a) (he : Spt.End a) (B : Nat) (hB : a.length ≤ B) (h1 : 1 ≤ B) : Wz B (Spt.SP a) := by
  intro i
  by_cases hi : i < a.length
  · rw [Spt.SP_at a hi]
    obtain ⟨c, q1, q2, q3⟩ := Spt.col_range hf he hi
    have := Od.K_le a
    rw [← Od.OD_len] at this
    have hln := Spt.ln_cases a i
    refine ⟨by rw [q3]; omega, ?_⟩
    show (Spt.ln a i).natAbs ≤ 1
    omega
  · have : (Spt.SP a).getD i (0, 0) = (0, 0) := by
      have hl := Spt.SP_len a
      simp [List.getD, List.getElem?_eq_none (show (Spt.SP a).length ≤ i by omega)]
    rw [this]
    exact ⟨by show (0 : Int).natAbs < B; simp; omega, by show (0 : Int).natAbs ≤ 1; decide⟩
theorem SPA_wz {l : List Int} {b : Int} {Z : List (Int × Int)} {E : Int} (h : SPA l b Z E) (B : Nat) (hB : l.length + 1 ≤ B) : Wz B Z := by
  rcases h with ⟨⟨hb, hf⟩, rfl, _⟩ | ⟨_, rfl, _⟩
  · exact SP_wz ((Spt.al_fo hb).2 hf) (Spt.al_endE hb) B (by rw [Spt.al_len]; exact hB) (by omega)
  · intro i
    exact ⟨by show (0 : Int).natAbs < B; simp; omega, by show (0 : Int).natAbs ≤ 1; decide⟩
end Go.Proofs.YthkmbnbkipomiaaGreatDoor

/- A walk through a line is what is shown of it: mathematics. -/
namespace Go.Proofs.YthkmbnbkipomiaaGreatDoor
set_option linter.unusedVariables false
namespace Spt
/-- What a walk from the left edge on meets, and what is shown meanwhile. -/
structure TW (D X S : List Int) (Z : List (Int × Int)) (n nS : Nat) (P K : Nat → Nat) : Prop where
  lt : ∀ c, c ≤ nS → P c < n + 1
  first : OF Z 0 1 = ((P 0 : Int), 0)
  next : ∀ c, c < nS → ST Z (P c : Int) 1 = ((P (c + 1) : Int), 0)
  prev : ∀ c, c < nS → ST Z (P (c + 1) : Int) (-1) = ((P c : Int), 0)
  edge : ST Z (P nS : Int) 1 = (0, 150)
  last : P (nS + 1) = 0
  k0 : K 0 = 0
  ky : ∀ c, c ≤ nS → P c < n → K (c + 1) = K c + 1 ∧ K c < nS ∧ S.getD (K c) 0 = Mi.gl (D.getD (P c) 0) (X.getD (P c) 0)
  kn : ∀ c, c ≤ nS → ¬ P c < n → K (c + 1) = K c
  kend : K (nS + 1) = nS
theorem tw {D X : List Int} {m : Int} (hm : m = 0 ∨ m = 1) (hX : Od.Fo X) {n nS : Nat} (hn : X.length = n) (hS : (Mi.SW D X).length = nS) : ∃ P K, TW D X (Mi.SW D X) (SP (al X m)) n nS P K := by
  have hf := (al_fo hm).2 hX
  have he := al_endE (l := X) hm
  have hal : (al X m).length = n + 1 := by rw [al_len, hn]
  have hL : (Od.OD (al X m)).length = nS + 1 := by rw [OD_cut_len hm, ← hS, Mi.SW_len]
  have hcut := OD_cut (b := m) hm hX
  rw [hn] at hcut
  have hXl : (Od.OD X).length = nS := by rw [← hS, Mi.SW_len]
  have hA : ∀ c, c < nS + 1 → (Od.OD (al X m)).getD c 0 < n + 1 ∧ (sp (al X m) ((Od.OD (al X m)).getD c 0)).1 = (c : Int) := fun c hc => by
    have hs := ((Od.OD_vis hf).mem _).1 (Od.OD_in (by rw [hL]; exact hc))
    refine ⟨by have := (Od.sn_at hs).1; omega, ?_⟩
    rw [sp_seen he hs]
    exact co_at hf (by rw [hL]; exact hc)
  have hST : ∀ c, c < nS + 1 → _ := fun c hc => ST_SP hf he (i := (Od.OD (al X m)).getD c 0) (c := c) (by rw [hal]; exact (hA c hc).1) (hA c hc).2 (by rw [hL]; exact hc)
  rw [hL] at hST
  refine ⟨fun c => (Od.OD (al X m)).getD c 0, fun c => kc (Od.OD (al X m)) (fun x => decide (x < n)) c, ?_, ?_, ?_, ?_, ?_, ?_, ?_, ?_, ?_, ?_⟩
  · exact fun c hc => (hA c (by omega)).1
  · rw [OF_yes (.inl rfl)]
    unfold FA
    rw [show (0 : Int) = ((0 : Nat) : Int) from rfl, FI_SP hf he (by rw [hL]; omega)]
  · intro c hc
    have := (hST c (by omega)).1
    rw [if_pos (by omega), if_pos (by omega)] at this
    exact this
  · intro c hc
    have := (hST (c + 1) (by omega)).2
    rw [if_pos (by omega), if_pos (by omega), Nat.add_sub_cancel] at this
    exact this
  · have := (hST nS (by omega)).1
    rw [if_neg (by omega), if_neg (by omega)] at this
    exact this
  · show (Od.OD (al X m)).getD (nS + 1) 0 = 0
    simp [List.getD, List.getElem?_eq_none (show (Od.OD (al X m)).length ≤ nS + 1 by omega)]
  · exact kc_zero _ _
  · intro c hc hlt
    have hlt' : (Od.OD (al X m)).getD c 0 < n := hlt
    have hd : decide ((Od.OD (al X m)).getD c 0 < n) = true := decide_eq_true hlt'
    have hcl : c < (Od.OD (al X m)).length := by rw [hL]; omega
    have h1 := kc_step (P := Od.OD (al X m)) (p := fun x => decide (x < n)) hcl
    rw [if_pos hd] at h1
    have h2 := filter_at (P := Od.OD (al X m)) (p := fun x => decide (x < n)) hcl hd
    rw [hcut, hXl] at h2
    refine ⟨h1, h2.1, ?_⟩
    rw [Mi.SW_at (by rw [hXl]; exact h2.1), h2.2]
  · intro c hc hlt
    have hd : ¬ decide ((Od.OD (al X m)).getD c 0 < n) = true := fun q => hlt (of_decide_eq_true q)
    have h1 := kc_step (P := Od.OD (al X m)) (p := fun x => decide (x < n)) (n := c) (by rw [hL]; omega)
    rw [if_neg hd] at h1
    exact h1
  · show kc (Od.OD (al X m)) (fun x => decide (x < n)) (nS + 1) = nS
    rw [← hL, kc_all, hcut, hXl]
end Spt
end Go.Proofs.YthkmbnbkipomiaaGreatDoor
