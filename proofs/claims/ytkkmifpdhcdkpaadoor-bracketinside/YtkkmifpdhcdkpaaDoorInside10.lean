/- BracketInside: its walk. -/
import Derived.Test.YtkkmifpdhcdkpaaDoorDeep10
namespace Go.Proofs.YtkkmifpdhcdkpaaDoor
open Go.RowKit
set_option linter.unusedVariables false
set_option maxHeartbeats 4000000
set_option maxRecDepth 100000
namespace Br
def six : List Int := [1, 2, 4, 7, 13, 14]
/-- What an inner number stands for. -/
def isx (z : Int) : Int := six.getD (wrap64 ((IntKind.u64.wrap z).tmod 6)).toNat 0
theorem isx_at (z : Int) : ∃ q : Nat, q < 6 ∧ wrap64 ((IntKind.u64.wrap z).tmod 6) = (q : Int) ∧ isx z = six.getD q 0 := by
  obtain ⟨q, hq, e⟩ := place_at z 6 (by omega) (by omega)
  have e' : wrap64 ((IntKind.u64.wrap z).tmod 6) = (q : Int) := e
  exact ⟨q, hq, e', by unfold isx; rw [e']; rfl⟩
theorem isx_in (z : Int) : isx z = 1 ∨ isx z = 2 ∨ isx z = 4 ∨ isx z = 7 ∨ isx z = 13 ∨ isx z = 14 := by
  obtain ⟨q, hq, _, e⟩ := isx_at z
  rw [e]
  have h6 : q = 0 ∨ q = 1 ∨ q = 2 ∨ q = 3 ∨ q = 4 ∨ q = 5 := by omega
  rcases h6 with rfl | rfl | rfl | rfl | rfl | rfl <;> decide
def il (m : Nat) : List Int := 40 :: List.replicate m 97 ++ [41]
def it (X : List Int) : List Int := 14 :: X ++ [14]
theorem il_len (m : Nat) : (il m).length = m + 2 := by simp [il]
theorem it_len (X : List Int) : (it X).length = X.length + 2 := by simp [it]
theorem il_mid {m i : Nat} (h1 : 0 < i) (h2 : i ≤ m) : (il m).getD i 0 = 97 := by
  obtain ⟨j, rfl⟩ : ∃ j, i = j + 1 := ⟨i - 1, by omega⟩
  simp [il, List.getD, List.getElem?_append, show j < m by omega]
theorem il_end (m : Nat) : (il m).getD (m + 1) 0 = 41 := by simp [il, List.getD]
theorem it_mid {X : List Int} {i : Nat} (h2 : i < X.length) : (it X).getD (i + 1) 0 = X.getD i 0 := by simp [it, List.getD, List.getElem?_append, h2]
theorem it_end (X : List Int) : (it X).getD (X.length + 1) 0 = 14 := by simp [it, List.getD]
theorem s97 : Ucd.side 97 = (0, 0) ∧ Ucd.side 40 = (1, 41) ∧ (Ucd.side 41).1 = 2 ∧ Ucd.canon 41 = 41 := by decide +kernel
theorem in_pairs (X : List Int) : PP (il X.length) (it X) = [(0, X.length + 1)] := by
  unfold PP
  rw [il_len]
  refine onlyP ?_ ?_ ?_ ?_
  · rw [kd_on (by rfl)]; show (Ucd.side 40).1 = 1; rw [s97.2.1]
  · intro i h1 h2
    unfold kd
    rw [il_mid h1 h2, s97.1]
    split <;> rfl
  · rw [kd_on (it_end X), il_end]; exact s97.2.2.1
  · unfold mt en
    rw [il_end]
    show (Ucd.canon (Ucd.side 40).2 == Ucd.canon 41) = true
    rw [s97.2.1]; decide
theorem in_ins (X : List Int) : ins (it X) (0, X.length + 1) = X := by
  unfold ins it
  simp
/-- What a pair about X gets. -/
def wants (X : List Int) (e s : Int) : Int := if has X e = true then e else if has X (3 - e) = true then s else 14
theorem in_dr (X : List Int) (e s : Int) (he : e = 1 ∨ e = 2) (hs : s = 1 ∨ s = 2) : (dr (it X) (0, X.length + 1) e s = 0 ∧ wants X e s = 14) ∨ (¬ dr (it X) (0, X.length + 1) e s = 0 ∧ wants X e s = dr (it X) (0, X.length + 1) e s) := by
  have hd : dr (it X) (0, X.length + 1) e s = (if has X e = true then e else if has X (3 - e) = true then (if s = 3 - e then 3 - e else e) else 0) := by unfold dr; rw [in_ins]; rfl
  rw [hd]
  unfold wants
  by_cases h1 : has X e = true
  · rw [if_pos h1, if_pos h1]; right; exact ⟨by omega, rfl⟩
  · rw [if_neg h1, if_neg h1]
    by_cases h2 : has X (3 - e) = true
    · rw [if_pos h2, if_pos h2]; right
      by_cases h3 : s = 3 - e
      · rw [if_pos h3]; exact ⟨by omega, h3⟩
      · rw [if_neg h3]; exact ⟨by omega, by omega⟩
    · rw [if_neg h2, if_neg h2]; left; exact ⟨rfl, rfl⟩
/-- The answer: its ends. -/
theorem in_rs (X : List Int) (e s : Int) (he : e = 1 ∨ e = 2) (hs : s = 1 ∨ s = 2) :
    (rs (it X) e s (it X) [(0, X.length + 1)]).length = X.length + 2 ∧ (rs (it X) e s (it X) [(0, X.length + 1)]).getD 0 0 = wants X e s ∧ (rs (it X) e s (it X) [(0, X.length + 1)]).getD (X.length + 1) 0 = wants X e s := by
  refine ⟨by rw [rs_len, it_len], ?_⟩
  show (one (it X) e s (it X) (0, X.length + 1)).getD 0 0 = _ ∧ (one (it X) e s (it X) (0, X.length + 1)).getD (X.length + 1) 0 = _
  rcases in_dr X e s he hs with ⟨h1, h2⟩ | ⟨h1, h2⟩
  · unfold one
    rw [if_pos h1, h2, it_end]
    exact ⟨rfl, rfl⟩
  · unfold one
    rw [if_neg h1, h2]
    have n1 : 1 ≤ nx (it X) 1 := (nx_le (by rw [it_len]; omega)).1
    have n2 : X.length + 1 + 1 ≤ nx (it X) (X.length + 1 + 1) := (nx_le (by rw [it_len]; omega)).1
    rw [two_at, two_at, if_pos ⟨.inr ⟨Nat.le_refl _, by show 0 < nx (it X) (0 + 1); rw [Nat.zero_add]; omega⟩, by rw [it_len]; omega⟩, if_pos ⟨.inl ⟨Nat.le_refl _, by show X.length + 1 < nx (it X) (X.length + 1 + 1); omega⟩, by rw [it_len]; omega⟩]
    exact ⟨rfl, rfl⟩
theorem it_may (X : List Int) (h : ∀ x ∈ X, may x = true) : (it X).all may = true := by
  rw [List.all_eq_true]
  intro x hx
  simp only [it, List.cons_append, List.mem_cons, List.mem_append, List.not_mem_nil, or_false] at hx
  rcases hx with rfl | hx | rfl
  · rfl
  · exact h x hx
  · rfl
theorem in_RA (X : List Int) (lv s : Int) (hl : 0 ≤ lv ∧ lv ≤ 126) (hs : s = 1 ∨ s = 2) (h : ∀ x ∈ X, may x = true) : RA (il X.length) (it X) (it X) lv s = (0, rs (it X) (es lv) s (it X) [(0, X.length + 1)]) := by
  rw [RA_ok ⟨⟨by rw [il_len, it_len], rfl⟩, hl, hs⟩ (it_may X h), in_pairs]
/-- The mapped numbers. -/
def xs (zs : List Int) (k : Nat) : List Int := (zs.take k).map isx
theorem xs_len {zs : List Int} {k : Nat} (h : k ≤ zs.length) : (xs zs k).length = k := by simp [xs]; omega
theorem xs_succ {zs : List Int} {k : Nat} (h : k < zs.length) : xs zs (k + 1) = xs zs k ++ [isx (zs.getD k 0)] := by
  unfold xs
  rw [List.take_succ_eq_append_getElem h, List.map_append]
  simp [List.getD, List.getElem?_eq_getElem h]
theorem xs_in {zs : List Int} {k : Nat} {x : Int} (h : x ∈ xs zs k) : ∃ z, x = isx z := by
  unfold xs at h
  obtain ⟨z, _, rfl⟩ := List.mem_map.1 h
  exact ⟨z, rfl⟩
theorem xs_may (zs : List Int) (k : Nat) : ∀ x ∈ xs zs k, may x = true := by
  intro x hx
  obtain ⟨z, rfl⟩ := xs_in hx
  rcases isx_in z with h | h | h | h | h | h <;> rw [h] <;> rfl
theorem has_xs {zs : List Int} {k : Nat} {s : Int} (h : k < zs.length) : has (xs zs (k + 1)) s = (has (xs zs k) s || decide (sd (isx (zs.getD k 0)) = s)) := by rw [xs_succ h, has_snoc]
end Br
theorem own_one (w : World) (e : TypeId) (k : IntKind) (x : Int) (B : Nat) (hB : B ≤ w.heap.size) : (w.alloc (.cells #[.int k x] e)).ownsRow B e 1 (.slice (some ⟨w.heap.size, 0, none⟩) 1 1) 1 ([x].map (Value.int k)) :=
  ⟨rfl, .inr ⟨w.heap.size, 1, _, rfl, hB, heap_alloc_last w _, Nat.le_refl _, by unfold maxLen; omega, rfl, rfl⟩⟩
theorem LT.keep {w0 : World} {vl vt : Value} {nl nt : Nat} {l t : List Int} {w w' : World} (h : LT w0 vl vt nl nt l t w) (hb : Below w.heap.size w w') : LT w0 vl vt nl nt l t w' := ⟨KO.on h.old hb, owns_below h.ol hb, owns_below h.ot hb⟩
theorem BracketInside_walk (w : World) (hm : Marks w) (a0 : Option Addr) (n0 c0 : Nat) (zs : List Int) (h0 : Row .i64 w a0 n0 c0 zs) (f0 : ∀ x ∈ zs, (Lit.int .i64 x).wf = true) (b0 : n0 * 8 ≤ 140737488351232)
    (a1 : Int) (wf1 : (Lit.int .i64 a1).wf = true) (a2 : Int) (wf2 : (Lit.int .i64 a2).wf = true) :
    Calls Tryd.prog 8 #[.slice a0 n0 c0, .int .i64 a1, .int .i64 a2] w fun e w' => e = .returned (.bool true) ∧ Below w.heap.size w w' := by
  have HW := hide (works10_any w hm)
  have HM := hide hm
  have H0 := hide h0
  have e0 := h0.len
  have HE0 := hide e0
  obtain ⟨lv, hlv, el'⟩ := place_at a1 127 (by omega) (by omega)
  obtain ⟨sx, hsx, es'⟩ := place_at a2 2 (by omega) (by omega)
  have el : wrap64 ((IntKind.u64.wrap a1).tmod 127) = (lv : Int) := el'
  have es2 : wrap64 ((IntKind.u64.wrap a2).tmod 2) = (sx : Int) := es'
  obtain ⟨ir, hir, hz0, hz1, hz2⟩ := info_parts infoRune
  obtain ⟨ii, hii, hy0, hy1, hy2⟩ := info_parts infoInt
  have HIR := hide hir
  have HZ0 := hide hz0
  have HZ1 := hide hz1
  have HZ2 := hide hz2
  have HII := hide hii
  have HY0 := hide hy0
  have HY1 := hide hy1
  have HY2 := hide hy2
  have htm : ((lv : Int)).tmod 2 = (lv : Int) % 2 := Int.tmod_eq_emod_of_nonneg (by omega)
  have hes : Br.es (lv : Int) = 1 + (lv : Int) % 2 := by unfold Br.es; split <;> omega
  have hl2 : (lv : Int) % 2 = 0 ∨ (lv : Int) % 2 = 1 := by omega
  have hcap := h0.le
  have hmx := h0.max
  unfold maxLen at hmx
  clear hm h0 f0 wf1 wf2 el' es' hir hz0 hz1 hz2 hii hy0 hy1 hy2 e0
  have hs2 : (1 : Int) + (sx : Int) = 1 ∨ (1 : Int) + (sx : Int) = 2 := by omega
  go_enter Tryd.func8, Tryd.ntmps8
  go_wp2_with fail
  refine HW.out.mono ?_
  rintro e w1 ⟨rfl, hk1⟩
  have HK1 := hide hk1
  clear hk1 HW
  go_wp2
  rw [el, es2]
  have hev : (1 : Int) + (lv : Int) % 2 = 1 ∨ (1 : Int) + (lv : Int) % 2 = 2 := by omega
  rw [← hes] at hev ⊢
  generalize hEV : Br.es (lv : Int) = ev at *
  have HEV := hide hEV
  generalize (1 : Int) + (sx : Int) = s at *
  obtain ⟨W2, hW2⟩ : ∃ W2, w1.alloc (.cells #[.int .i32 40] 21) = W2 := ⟨_, rfl⟩
  have ho2 : W2.ownsRow w1.heap.size 21 1 (.slice (some ⟨w1.heap.size, 0, none⟩) 1 1) 1 ([40].map (Value.int .i32)) := by rw [← hW2]; exact own_one w1 _ .i32 40 _ (Nat.le_refl _)
  have hk2 : KO w1 W2 := by rw [← hW2]; exact KO.alloc (KO.refl _) _
  have hsz2 : W2.heap.size = w1.heap.size + 1 := by rw [← hW2]; simp
  have ho3 := own_one W2 3 .i64 14 w1.heap.size (by omega)
  rw [hsz2] at ho3
  rw [hW2]
  have HL0 : Hid (LT w1 (.slice (some ⟨w1.heap.size, 0, none⟩) 1 1) (.slice (some ⟨w1.heap.size + 1, 0, none⟩) 1 1) 1 1 [40] [14] (W2.alloc (.cells #[.int .i64 14] 3))) := hide ⟨KO.alloc hk2 _, ho2.alloc _, ho3⟩
  generalize W2.alloc (.cells #[.int .i64 14] 3) = W3 at *
  clear ho2 hk2 hsz2 ho3 hW2 hEV htm hl2 hes
  go_loopw [7, 8, 10, 11, 12] (fun s7 s8 s10 s11 s12 wr => ∃ (k : Nat) (vl vt : Value), vl = s7 ∧ vt = s8 ∧ s10 = .bool (Br.has (Br.xs zs k) ev) ∧ s11 = .bool (Br.has (Br.xs zs k) (3 - ev)) ∧ s12 = .int .i64 (k : Int) ∧ k ≤ n0 ∧ k ≤ 200 ∧ Hid (LT w1 vl vt (k + 1) (k + 1) (40 :: List.replicate k 97) (14 :: Br.xs zs k) wr)) (fun _ _ _ _ s12 _ => 200 - (intOf s12).toNat)
  case atStart => exact ⟨0, _, _, rfl, rfl, rfl, rfl, rfl, Nat.zero_le _, by omega, HL0⟩
  case round =>
    obtain ⟨k, vl, vt, hvl, hvt, rfl, rfl, rfl, hk, hk2, HL⟩ := hrel
    subst hvl
    subst hvt
    clear HL0
    by_cases hin : k < n0 ∧ k < 200
    · have q1 : (k : Int) < (n0 : Int) := by omega
      have q2 : (k : Int) < 200 := by omega
      obtain ⟨X, hX⟩ : ∃ X, wr.alloc (.cells #[.int .i64 1, .int .i64 2, .int .i64 4, .int .i64 7, .int .i64 13, .int .i64 14] 3) = X := ⟨_, rfl⟩
      have hkX : KO wr X := by rw [← hX]; exact KO.alloc (KO.refl _) _
      have hr6 : Row .i64 X (some ⟨wr.heap.size, 0, none⟩) 6 6 Br.six := by rw [← hX]; exact row_lit .i64 wr Br.six 3 (by decide)
      obtain ⟨b, off, eb, hb, hc⟩ := (H0.out.below (KO.on HK1.out (KO.on HL.out.old hkX))).cells (by omega)
      have gz := hc k (by rw [HE0.out]; exact hin.1)
      subst eb
      obtain ⟨q, hq, eq, ex⟩ := Br.isx_at (zs.getD k 0)
      have gq := rowAt hr6 (KO.refl _) q hq
      rw [Nat.zero_add, ← ex] at gq
      have hqi : (q : Int) < 6 := by omega
      have HX1 := hide (Br.has_xs (s := ev) (show k < zs.length by rw [HE0.out]; exact hin.1))
      have HX2 := hide (Br.has_xs (s := 3 - ev) (show k < zs.length by rw [HE0.out]; exact hin.1))
      have HXS := hide (Br.xs_succ (show k < zs.length by rw [HE0.out]; exact hin.1))
      have hin6 := Br.isx_in (zs.getD k 0)
      have HLX := hide (HL.out.keep hkX)
      generalize Br.isx (zs.getD k 0) = x at *
      generalize zs.getD k 0 = z at *
      generalize Br.has (Br.xs zs k) ev = b1 at *
      generalize Br.has (Br.xs zs k) (3 - ev) = b2 at *
      clear hc hb ex hr6 hkX HL hin
      rcases hev with rfl | rfl
      all_goals
        rcases hin6 with rfl | rfl | rfl | rfl | rfl | rfl
        all_goals
          go_wp2_with (first
            | (at_builtin; refine wpList_append_one X rfl (.tmp 53) (.tmp 54) 22 rfl w1.heap.size 21 ir _ 4 Tryd.underlying22 HIR.out HZ0.out HZ1.out HZ2.out rfl vl (k + 1) _ rfl (.int .i32 97) HLX.out.ol _ rfl rfl rfl (by omega) (by omega) HLX.out.old.size ?_; intro v1 W4 ho1 hg1; have HL1 := hide (HLX.out.pushL ho1 hg1); clear ho1 hg1)
            | (at_builtin; refine wpList_append_one W4 rfl (.tmp 56) (.tmp 58) 23 rfl w1.heap.size 3 ii _ 8 Tryd.underlying23 HII.out HY0.out HY1.out HY2.out rfl vt (k + 1) _ rfl _ HL1.out.ot _ rfl rfl rfl (by omega) (by omega) HL1.out.old.size ?_; intro v2 W5 ho2 hg2; have HL2 := hide (HL1.out.pushT ho2 hg2); clear ho2 hg2))
          go_roundw
          case rel => exact ⟨k + 1, _, _, rfl, rfl, by rw [HX1.out]; cases b1 <;> rfl, by rw [HX2.out]; cases b2 <;> rfl, by go_num, by omega, by omega, by rw [List.replicate_succ', HXS.out]; exact HL2⟩
          case measure => simp [intOf]; omega
    · have HLX := hide (show k = (Br.xs zs k).length from (Br.xs_len (by rw [HE0.out]; exact hk)).symm)
      have HRA := hide (Br.in_RA (Br.xs zs k) (lv : Int) s ⟨by omega, by omega⟩ hs2 (Br.xs_may zs k))
      have HRS := hide (Br.in_rs (Br.xs zs k) ev s hev hs2)
      rw [HEV.out] at HRA
      have HWA : Hid (Br.wants (Br.xs zs k) ev s = if Br.has (Br.xs zs k) ev = true then ev else if Br.has (Br.xs zs k) (3 - ev) = true then s else 14) := hide rfl
      have hif : ∀ y ∈ Br.il k, (Lit.int .i32 y).wf = true := by
        intro y hy
        simp only [Br.il, List.cons_append, List.mem_cons, List.mem_append, List.mem_replicate, List.not_mem_nil, or_false] at hy
        rcases hy with rfl | ⟨_, rfl⟩ | rfl <;> decide
      have HIF := hide hif
      have hd : ¬ (k : Int) < (n0 : Int) ∨ ((k : Int) < (n0 : Int) ∧ ¬ (k : Int) < 200) := by omega
      rw [← HLX.out] at HRA HRS
      generalize hRS : Br.rs (Br.it (Br.xs zs k)) ev s (Br.it (Br.xs zs k)) [(0, k + 1)] = RS at *
      generalize Br.wants (Br.xs zs k) ev s = wa at *
      generalize Br.has (Br.xs zs k) ev = b1 at *
      generalize Br.has (Br.xs zs k) (3 - ev) = b2 at *
      clear hif hin hRS
      have hb : (b1 = true ∧ wa = ev) ∨ (b1 = false ∧ b2 = true ∧ wa = s) ∨ (b1 = false ∧ b2 = false ∧ wa = 14) := by
        have := HWA.out
        cases b1 <;> cases b2 <;> simp_all
      clear HWA
      have HRES := hide (fun (W' : World) (v1 v2 : Value) (hL : LT w1 v1 v2 (k + 1 + 1) (k + 1 + 1) (40 :: List.replicate k 97 ++ [41]) (14 :: Br.xs zs k ++ [14]) W') => by
        obtain ⟨al, cal, e1, rl⟩ := row_of_owns hL.ol
        obtain ⟨at', cat, e2, rt⟩ := row_of_owns hL.ot
        have hR := resolve_any al at' at' (k + 1 + 1) (k + 1 + 1) (k + 1 + 1) cal cat cat (Br.il k) (Br.it (Br.xs zs k)) (Br.it (Br.xs zs k)) (lv : Int) s W' rl rt rt HIF.out (HM.out.below (KO.on HK1.out hL.old)) (by omega)
        rw [HRA.out] at hR
        exact (show ∃ al cal at' cat, v1 = .slice al (k + 1 + 1) cal ∧ v2 = .slice at' (k + 1 + 1) cat ∧ Calls Tryd.prog 15 #[.slice al (k + 1 + 1) cal, .slice at' (k + 1 + 1) cat, .slice at' (k + 1 + 1) cat, .int .i64 (lv : Int), .int .i64 s] W' (R10 W' (0, RS)) from ⟨al, cal, at', cat, e1, e2, hR⟩))
      obtain ⟨r1, r2, r3⟩ := HRS.out
      have HR2 := hide r2
      have HR3 := hide r3
      have HR1 := hide r1
      clear r1 r2 r3 HRS HRA HIF
      rcases hd with hq | ⟨hq, hq2⟩
      all_goals
        go_wp2_with (first
          | (at_builtin; refine wpList_append_one wr rfl (.tmp 67) (.tmp 68) 22 rfl w1.heap.size 21 ir _ 4 Tryd.underlying22 HIR.out HZ0.out HZ1.out HZ2.out rfl vl (k + 1) _ rfl (.int .i32 41) HL.out.ol _ rfl rfl rfl (by omega) (by omega) HL.out.old.size ?_; intro v1 W4 ho1 hg1; have HL1 := hide (HL.out.pushL ho1 hg1); clear ho1 hg1)
          | (at_builtin; refine wpList_append_one W4 rfl (.tmp 70) (.tmp 71) 23 rfl w1.heap.size 3 ii _ 8 Tryd.underlying23 HII.out HY0.out HY1.out HY2.out rfl vt (k + 1) _ rfl (.int .i64 14) HL1.out.ot _ rfl rfl rfl (by omega) (by omega) HL1.out.old.size ?_; intro v2 W5 ho2 hg2; have HL2 := hide (HL1.out.pushT ho2 hg2); clear ho2 hg2; obtain ⟨al, cal, at', cat, rfl, rfl, hcall⟩ := HRES.out W5 v1 v2 HL2.out; have HCALL := hide hcall; clear hcall))
        refine HCALL.out.mono ?_
        rintro e w8 ⟨ar, cr, rfl, hrow, hk8⟩
        have hlen := HR1.out
        simp only at hrow ⊢
        rw [hlen] at hrow ⊢
        obtain ⟨b, off, eb, hb8, hc8⟩ := hrow.cells (by omega)
        have g0 := hc8 0 (by rw [hlen]; omega)
        have g1 := hc8 (k + 1) (by rw [hlen]; omega)
        rw [HR2.out, Nat.add_zero] at g0
        rw [HR3.out] at g1
        subst eb
        have hcr := hrow.le
        have hcm := hrow.max
        unfold maxLen at hcm
        have HK8 := hide (KO.on HK1.out (KO.on HL2.out.old hk8))
        clear hrow hc8 hb8 hk8 HCALL HRES hlen HL1 HL2 HL
        have hk1c : ((k + 2 : Nat) : Int) - 1 = (k : Int) + 1 := by omega
        rcases hb with ⟨rfl, rfl⟩ | ⟨rfl, rfl, rfl⟩ | ⟨rfl, rfl, rfl⟩
        all_goals
          go_wp2
          go_ret
          exact ⟨rfl, HK8.out⟩
end Go.Proofs.YtkkmifpdhcdkpaaDoor
