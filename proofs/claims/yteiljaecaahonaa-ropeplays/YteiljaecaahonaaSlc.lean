/- Slice: a range over from that collects. -/
import Derived.Test.YteiljaecaahonaaAt
import Derived.Test.YteiljaecaahonaaClimb
import Derived.RegionIn
namespace Go.Proofs.Yteiljaecaahonaa
open Go.RowKit Go.Shelf
set_option linter.unusedVariables false
set_option maxHeartbeats 1000000
set_option maxRecDepth 100000
attribute [local go_sem] Oper.semAt_some
theorem Slice_nobody (p : Option Addr) (i j : Int) (w : World) (h : Nobody w p) :
    Calls Try.prog 14 #[.pointer p, .int .i64 i, .int .i64 j] w fun e w' => e = .returned (.tuple #[.slice none 0 0, .int .i64 1]) ∧ Below w.heap.size w w' := by
  have HS := hide (fun w' (hk : KO w w') => stretch_nobody p i j w' (h.below hk))
  clear h
  go_enter Try.func14, Try.ntmps14
  go_wp2_with (go_at_call 43; refine (HS.out _ (KO.alloc (KO.alloc (KO.refl _) _) _)).mono ?_; rintro e w' ⟨rfl, rfl⟩)
  go_ret2
  exact ⟨rfl, KO.alloc (KO.alloc (KO.refl _) _) _⟩
theorem Slice_bad (b : Nat) (t : Tr) (i j : Int) (w : World) (h : IsRope w b t) (hb : ¬ (0 ≤ i ∧ i ≤ j ∧ j ≤ (t.size : Int))) :
    Calls Try.prog 14 #[.pointer (some ⟨b, 0, none⟩), .int .i64 i, .int .i64 j] w fun e w' => e = .returned (.tuple #[.slice none 0 0, .int .i64 4]) ∧ Below w.heap.size w w' := by
  have HS := hide (fun w' (hk : KO w w') => stretch_rope b t i j w' (h.below hk))
  rw [bad_no hb] at HS
  clear h hb
  go_enter Try.func14, Try.ntmps14
  go_wp2_with (go_at_call 43; refine (HS.out _ (KO.alloc (KO.alloc (KO.refl _) _) _)).mono ?_; rintro e w' ⟨rfl, rfl⟩)
  go_ret2
  exact ⟨rfl, KO.alloc (KO.alloc (KO.refl _) _) _⟩
/-- What Slice keeps while it ranges: ys have been collected. -/
structure SlMid (w : World) (bl : Nat) (t : Tr) (i j : Nat) (ys : List Int) (W : World) : Prop where
  bfrom : Boxed W w.heap.size 3 (.int .i64 (i : Int))
  bto : Boxed W (w.heap.size + 1) 3 (.int .i64 (j : Int))
  box : Boxed W bl 22 (.slice (some ⟨w.heap.size + 2, 0, none⟩) ys.length (j - i))
  row : W.ownsRow w.heap.size 21 1 (.slice (some ⟨w.heap.size + 2, 0, none⟩) ys.length (j - i)) ys.length (ys.map (Value.int .i32))
  ok : FromOk t (bl + 1) (bl + 2) i W
  old : Below w.heap.size w W
theorem owns_belowAt {w w' : World} {base e size n B : Nat} {v : Value} {xs : List Value} (h : w.ownsRow base e size v n xs) (hb : Below B w w') (hv : ∀ g, v.ownBlock = some g → g < B) : w'.ownsRow base e size v n xs := by
  refine ⟨h.1, ?_⟩
  rcases h.2 with hn | ⟨g, cap, cur, rfl, hbs, hg, rest⟩
  · exact .inl hn
  · exact .inr ⟨g, cap, cur, rfl, hbs, (hb.block g (hv g rfl)).trans hg, rest⟩
theorem SlMid.kept {w : World} {bl : Nat} {t : Tr} {i j : Nat} {ys : List Int} {X Y : World} {B : Nat} (h : SlMid w bl t i j ys X) (hb : Below B X Y) (hB : bl + 3 ≤ B) (hbl : w.heap.size + 3 ≤ bl) (hl : Lies w t) : SlMid w bl t i j ys Y :=
  have hw : Below w.heap.size w Y := h.old.trans (hb.mono (by omega))
  ⟨(hb.block _ (by omega)).trans h.bfrom, (hb.block _ (by omega)).trans h.bto, (hb.block _ (by omega)).trans h.box, owns_belowAt h.row hb (fun g hg => by simp [Value.ownBlock] at hg; omega), h.ok.below hb (by omega) (by omega) hl hw, hw⟩
/-- One number more. -/
theorem sl_step {w : World} {bl : Nat} {t : Tr} {i j k n B : Nat} {pre : List Int} {x : Int} {X w3 : World} {a : Act} {Ix : Code → List Int → World → Prop} (hm : SlMid w bl t i j pre X) (hk : pre.length = k) (hn : j - i = n) (hkn : k + 1 ≤ n) (hbl : w.heap.size + 3 ≤ bl) (hl : Lies w t) (hB : B = bl + 3)
    (hown : w3.ownsRow w.heap.size 21 1 (.slice (some ⟨w.heap.size + 2, 0, none⟩) (k + 1) n) (k + 1) (pre.map (Value.int .i32) ++ [.int .i32 x])) (hg : (X.alloc (.cells #[.int .i32 x] 21)).grownBy w3 (some (w.heap.size + 2))) :
    rPost B (fun pre W => pre.length ≤ n ∧ SlMid w bl t i j pre W) Ix (pre ++ [x]) X .normal a (w3.setCell ⟨bl, 0, none⟩ (.slice (some ⟨w.heap.size + 2, 0, none⟩) (k + 1) n)) := by
  subst hB hk hn
  have hbox : Boxed w3 bl 22 (.slice (some ⟨w.heap.size + 2, 0, none⟩) pre.length (j - i)) := (hm.box.alloc _).kept hg (by simp; omega)
  have hB : Below w.heap.size w (w3.setCell ⟨bl, 0, none⟩ (.slice (some ⟨w.heap.size + 2, 0, none⟩) (pre.length + 1) (j - i))) := ((hm.old.alloc hm.old.size _).grown hg (by have := hm.old.size; simp; omega) (fun k e => by cases e; omega)).setCell (by show w.heap.size ≤ bl; omega) _
  have hlen : (pre ++ [x]).length = pre.length + 1 := by simp
  refine ⟨(Beyond.alloc _ X _).trans ((Beyond.of_grownBy hg (fun j e => by cases e; omega)).trans (Beyond.setCell _ (by show bl < bl + 3; omega) _)), by rw [hlen]; exact hkn, ?_, ?_, ?_, ?_, ⟨?_, ?_, hl.below hB⟩, hB⟩
  · exact ((hm.bfrom.alloc _).kept hg (by simp)).other (by omega) _
  · exact ((hm.bto.alloc _).kept hg (by simp)).other (by omega) _
  · rw [hlen]; exact hbox.set _
  · rw [hlen, List.map_append]
    exact owns_belowAt hown (Below.setCell (Below.refl bl w3) (by exact Nat.le_refl _) _) (fun g hg => by simp [Value.ownBlock] at hg; omega)
  · rw [World.cell?_setCell_other _ _ _ _ (by simp)]
    have := World.block_lt_of_cell? X _ hm.ok.node
    exact (World.cell?_of_block (hg.block _ (by simp at this ⊢; omega) (by simp; omega))).trans ((World.cell?_of_block (Below.heap_alloc X _ _ (by simpa using this))).trans hm.ok.node)
  · rw [World.cell?_setCell_other _ _ _ _ (by simp)]
    have := World.block_lt_of_cell? X _ hm.ok.place
    exact (World.cell?_of_block (hg.block _ (by simp at this ⊢; omega) (by simp; omega))).trans ((World.cell?_of_block (Below.heap_alloc X _ _ (by simpa using this))).trans hm.ok.place)
theorem Slice_ok (b : Nat) (t : Tr) (i j : Nat) (w : World) (h : IsRope w b t) (hij : i ≤ j) (hj : j ≤ t.size) (hs : t.size ≤ 17592186044416) :
    Calls Try.prog 14 #[.pointer (some ⟨b, 0, none⟩), .int .i64 (i : Int), .int .i64 (j : Int)] w fun e w' =>
      ∃ g, e = .returned (.tuple #[.slice (some ⟨g, 0, none⟩) (j - i) (j - i), .int .i64 0]) ∧ w'.ownsRow w.heap.size 21 1 (.slice (some ⟨g, 0, none⟩) (j - i) (j - i)) (j - i) (((t.list.drop i).take (j - i)).map (Value.int .i32)) ∧ Below w.heap.size w w' := by
  have HS := hide (fun w' (hk : KO w w') => stretch_rope b t i j w' (h.below hk))
  rw [bad_ok (by omega) (by omega) (by omega)] at HS
  have hlt := h.lt
  have k1 : ∀ w', KO w w' → w'.cell? ⟨b, 1, none⟩ = some (.pointer t.at) := fun w' hk => (Below.cell hk (by exact hlt)).trans h.top
  have HL := hide h.lies
  obtain ⟨p, hp⟩ : ∃ p, t.at = p := ⟨_, rfl⟩
  rw [hp] at k1
  have HP := hide hp
  obtain ⟨n, hn⟩ : ∃ n, j - i = n := ⟨_, rfl⟩
  have hsub : (j : Int) - (i : Int) = (n : Int) := by omega
  have hn44 : n ≤ 17592186044416 := by omega
  have e1 : wrap64 ((j : Int) - (i : Int)) = (n : Int) := by rw [hsub]; exact w64_small (by omega) (by omega)
  obtain ⟨i21, hi21, hz0, hz1, hz2⟩ := info_parts info21
  have HI : Hid (Try.prog.info? 21 = some i21) := hi21
  have HZ0 := hide hz0
  have HZ1 := hide hz1
  have HZ2 := hide hz2
  have HN := hide hn
  have HN44 := hide hn44
  have HSUB := hide hsub
  have HJ := hide hj
  have HIJ := hide hij
  rw [hn]
  obtain ⟨V, hV⟩ : ∃ V, ((w.alloc (Obj.cells #[Value.int IntKind.i64 (i : Int)] 3)).alloc (Obj.cells #[Value.int IntKind.i64 (j : Int)] 3)) = V := ⟨_, rfl⟩
  have hkV : KO w V := by rw [← hV]; exact KO.alloc (KO.alloc (KO.refl _) _) _
  have hVs : V.heap.size = w.heap.size + 2 := by rw [← hV]; simp
  have bF : Boxed V w.heap.size 3 (.int .i64 (i : Int)) := by rw [← hV]; exact (Boxed.new w _ _).alloc _
  have bT : Boxed V (w.heap.size + 1) 3 (.int .i64 (j : Int)) := by
    rw [← hV]; have := Boxed.new (w.alloc (Obj.cells #[Value.int IntKind.i64 (i : Int)] 3)) 3 (.int .i64 (j : Int)); rw [World.size_alloc] at this; exact this
  have cF := bF.cell
  have cT := bT.cell
  have HKV := hide hkV
  have HVS := hide hVs
  have HBF := hide bF
  have HBT := hide bT
  have HK1 := hide k1
  have HSZ := hide hs
  clear h hij hj hs hn hsub hn44 hi21 hz0 hz1 hz2 hp k1 hkV hVs bF bT
  refine (callsIn_wide (n := 3)).1 ?_
  refine callsIn_of_wp_marks Try.func14 rfl trivial ?_
  simp only [Try.ntmps14, List.size_toArray, List.length_cons, List.length_nil, Nat.reduceAdd, Nat.reduceSub, Array.replicate_succ, Array.replicate_zero, List.push_toArray, List.append_toArray, List.nil_append, List.cons_append]
  gi_wp2_with fail
  clear hV
  refine ⟨trivial, ?_⟩
  refine (callsIn_wide.2 (HS.out V HKV.out)).mono ?_
  rintro e w' ⟨rfl, rfl⟩
  gi_wp2_with (gi_at_make; refine wpListIn_make_own _ rfl _ _ 22 rfl w.heap.size 21 i21 (.int .i32 0) 1 Try.underlying22 HI.out HZ0.out HZ1.out _ _ _ n rfl rfl e1 (by rw [HZ2.out]; have := HN44.out; omega) (by unfold maxLen; have := HN44.out; omega) (by have := HVS.out; omega) ?_; intro w2 hown2 hg2)
  have hVs := HVS.out
  obtain ⟨bl, hbl⟩ : ∃ bl, w2.heap.size = bl := ⟨_, rfl⟩
  obtain ⟨W2, hW2⟩ : ∃ W2, w2.alloc (Obj.cells #[Value.slice (some ⟨V.heap.size, 0, none⟩) 0 n] 22) = W2 := ⟨_, rfl⟩
  have hg0 : V.heap.size < w2.heap.size := by
    rcases hown2.2 with ⟨h, _⟩ | ⟨g, cap, cur, h, _, hg, _⟩
    · cases h
    · simp only [Value.slice.injEq, Option.some.injEq, Addr.mk.injEq] at h
      obtain ⟨⟨rfl, _⟩, _⟩ := h
      exact (Array.getElem?_eq_some_iff.1 hg).1
  rw [hW2, hbl, hVs]
  have hb2 : Below V.heap.size V W2 := by rw [← hW2]; exact ((Below.refl _ V).grown hg2 (Nat.le_refl _) (fun k e => by cases e)).alloc hg2.size _
  have hk2 : KO w W2 := KO.on HKV.out hb2
  have hW2s : W2.heap.size = bl + 1 := by rw [← hW2]; simp; omega
  have hrow2 : W2.ownsRow w.heap.size 21 1 (.slice (some ⟨w.heap.size + 2, 0, none⟩) 0 n) 0 [] := by rw [← hW2, ← hVs]; exact hown2.alloc _
  have hbox2 : Boxed W2 bl 22 (.slice (some ⟨w.heap.size + 2, 0, none⟩) 0 n) := by rw [← hW2, ← hVs, ← hbl]; exact Boxed.new _ _ _
  have cp := HK1.out W2 hk2
  have cF2 : W2.cell? ⟨w.heap.size, 0, none⟩ = some (.int .i64 (i : Int)) := (hb2.cell (by show w.heap.size < _; omega)).trans cF
  have hmo : Try.prog.follows .mixedOrders = true := by kernel_rfl
  have HBL := hide (show w.heap.size + 3 ≤ bl from by omega)
  have HB2 := hide hb2
  have HK2 := hide hk2
  have HW2S := hide hW2s
  have HROW2 := hide hrow2
  have HBOX2 := hide hbox2
  clear cF cT hW2 hg0 hb2 hk2 hW2s hrow2 hbox2 hbl hown2 hg2 hVs
  refine wpIn_mono (Q := NoPanic _) ?_ NoPanic.imp
  gi_region_with_o (refine ⟨trivial, ?_⟩; gi_at_call 42; refine (callsIn_wide.2 (from_any _ _ _)).mono ?_; rintro e w' ⟨rfl, rfl⟩)
  all_goals (
    refine NoPanic.normal ?_
    gi_wp2_with fail
    obtain ⟨W0, hW0⟩ : ∃ W0, ((W2.alloc (Obj.cells #[Value.pointer p] 35)).alloc (Obj.cells #[Value.int IntKind.i64 (i : Int)] 3)).drew = W0 := ⟨_, rfl⟩
    rw [hW0, HW2S.out]
    have hVs := HVS.out
    have hbl := HBL.out
    have hW2s := HW2S.out
    have hW0s : W0.heap.size = bl + 3 := by rw [← hW0]; simp; omega
    have hbW : Below W2.heap.size W2 W0 := by rw [← hW0]; exact (((Below.refl _ W2).alloc (Nat.le_refl _) _).alloc (by simp) _).drew
    have hold : Below w.heap.size w W0 := KO.on HK2.out hbW
    have hb2 := HB2.out
    have hnn := HN.out
    have h0 : SlMid w bl t i j [] W0 := by
      refine ⟨(hbW.block _ (by omega)).trans ((hb2.block _ (by omega)).trans HBF.out), (hbW.block _ (by omega)).trans ((hb2.block _ (by omega)).trans HBT.out), ?_, ?_, ⟨?_, ?_, HL.out.below hold⟩, hold⟩
      · rw [hnn]; exact (hbW.block _ (by omega)).trans HBOX2.out
      · rw [hnn]; exact owns_belowAt HROW2.out hbW (fun g hg => by simp [Value.ownBlock] at hg; omega)
      · rw [← hW0, ← hW2s, HP.out]; exact ((Boxed.new W2 _ _).alloc _).cell
      · rw [← hW0]
        have := (Boxed.new (W2.alloc (Obj.cells #[Value.pointer p] 35)) 3 (Value.int IntKind.i64 (i : Int))).cell
        rw [World.size_alloc, hW2s] at this; exact this
    have hsz := HSZ.out
    have hjj := HJ.out
    have hii := HIJ.out
    clear hW0 hbW hold cp cF2 hb2
    refine wpIn_range (ck := false) (gf := 56) (lb := #[.pointer (some ⟨bl + 1, 0, none⟩), .pointer (some ⟨bl + 1 + 1, 0, none⟩)]) rfl (enters_of Try.func56 (by kernel_rfl) rfl) (from1_seq t (bl + 1) (bl + 2) i (by omega) false) (fun _ => rfl)
      (fun pre W => pre.length ≤ n ∧ SlMid w bl t i j pre W) (fun c pre W => c = .exit 0 ∧ SlMid w bl t i j ((t.list.drop i).take n) W) (fun pre X ⟨_, h⟩ => h.ok) (fun pre X Y ⟨h1, h⟩ hc => ⟨h1, h.kept hc.below (by omega) hbl HL.out⟩) (fun c pre X Y ⟨h1, h⟩ hc => ⟨h1, h.kept hc.below (by omega) hbl HL.out⟩) ⟨Nat.zero_le _, h0⟩
      (fun x => { tmps := #[.pointer (some ⟨b, 0, none⟩), .int .i64 (i : Int), .int .i64 (j : Int), undef, .pointer (some ⟨w.heap.size, 0, none⟩), .pointer (some ⟨w.heap.size + 1, 0, none⟩), .slice none 0 0, .int .i64 0, .int .i64 0, .pointer (some ⟨bl, 0, none⟩), .int .i32 x, .pointer (some ⟨b, 0, none⟩), .int .i64 (i : Int), .int .i64 (j : Int), .int .i64 0, .int .i64 0, .bool false, undef, .int .i64 (j : Int), .int .i64 (i : Int), .int .i64 (n : Int), .slice (some ⟨w.heap.size + 2, 0, none⟩) 0 n, .pointer (some ⟨b, 0, none⟩), .pointer (some ⟨b, 0, none⟩), .pointer (some ⟨b, 1, none⟩), .pointer p, .int .i64 (i : Int), .func (.func 56) #[] #[.pointer (some ⟨bl + 1, 0, none⟩), .pointer (some ⟨bl + 1 + 1, 0, none⟩)], .int .i32 x, undef, undef, undef, undef, undef, undef, undef, undef, undef, undef, undef], defers := [] }) ?assign ?body ?done ?stop
    case assign =>
      intro m l x W K hK
      gi_wp2
      exact hK
    case body =>
      rintro m l pre x X ⟨hle, hM⟩ hpre hXs
      obtain ⟨k, hk⟩ : ∃ k, pre.length = k := ⟨_, rfl⟩
      have cf := hM.bfrom.cell
      have ct := hM.bto.cell
      have cl := hM.box.cell
      have fl := hM.box.frozen
      have hrow := hM.row
      rw [hk, hnn] at cl hrow
      rw [hk] at hle
      have hpt := (prefix_at hpre).2
      have HPT := hide hpt
      have HM := hide hM
      have HS0 := hide hW0s
      have HK := hide hk
      have HLE := hide hle
      have HXS := hide hXs
      generalize hQ : rPost _ _ _ _ X = Q
      have HQ := hide hQ
      by_cases hkn : k = n
      · have e2 : ((k : Int) = (n : Int)) := by omega
        subst hkn
        clear hQ hM hpre hXs h0 hW0s hVs hW2s hk hle hrow hsz hjj hii hpt hnn e2
        gi_wp2_with fail
        rw [← HQ.out]
        refine ⟨Beyond.refl _ _, rfl, ?_⟩
        have hm := HM.out
        rw [HPT.out, HK.out] at hm
        exact hm
      · have e2 : ¬ ((k : Int) = (n : Int)) := by omega
        have HKN := hide (show k < n from by omega)
        have HR := hide hrow
        clear hQ hM hpre hXs h0 hW0s hVs hW2s hk hle hsz hjj hii hkn hpt hnn hrow
        gi_wp2_with (gi_at_builtin; refine wpListIn_append_fits _ rfl _ _ 22 rfl w.heap.size 21 i21 1 Try.underlying22 HI.out HZ1.out (w.heap.size + 2) k n (pre.map (Value.int .i32)) rfl (HR.out.alloc _) ⟨X.heap.size, 0, none⟩ 1 1 [.int .i32 x] rfl rfl (cell_one_new _ _ _) (fun x hx => by simp at hx; subst hx; rfl) (by have := HKN.out; omega) ?_; intro w3 hown3 hgrow3; have hb3 : Boxed w3 bl 22 (.slice (some ⟨w.heap.size + 2, 0, none⟩) pre.length (j - i)) := (HM.out.box.alloc _).kept hgrow3 (by simp; omega); have c3 := hb3.cell; have f3 := hb3.frozen)
        rw [← HQ.out]
        exact sl_step HM.out HK.out HN.out (by have := HKN.out; omega) hbl HL.out (by have := HS0.out; omega) hown3 hgrow3
    case done =>
      rintro D W hD hWs ⟨hle, hM⟩ hK
      have hlen : (t.list.drop i).length = n := by rw [List.length_drop]; rw [List.length_drop] at hle; unfold Tr.size at hjj; omega
      have HXS := hide (show (t.list.drop i).take n = t.list.drop i from List.take_of_length_le (by omega))
      have cl := hM.box.cell
      rw [hlen, hnn] at cl
      have HM := hide hM
      have HD := hide hD
      have HS0 := hide hW0s
      have HLEN := hide hlen
      clear hM hD hWs h0 hW0s hVs hW2s hsz hjj hii hlen hle
      gi_wp2_with fail
      refine ⟨by simp, .inl ⟨_, _, rfl, run_takeDeferred hK, ?_⟩⟩
      have hm := HM.out
      have hr := hm.row
      rw [HLEN.out, hnn] at hr
      have hDD : bl + 3 ≤ D := by have := HD.out; have := HS0.out; omega
      refine ⟨_, results_tmp2 rfl _ _ _, w.heap.size + 2, rfl, ?_, hm.old.trans (below_put (by omega) _)⟩
      rw [HXS.out]
      exact ownsRow_putObj hr _ hK rfl
    case stop =>
      rintro D c pre W hD hWs hpre ⟨rfl, hM⟩ hK
      have hlen : ((t.list.drop i).take n).length = n := by rw [List.length_take, List.length_drop]; unfold Tr.size at hjj; omega
      have cl := hM.box.cell
      rw [hlen, hnn] at cl
      have HM := hide hM
      have HD := hide hD
      have HS0 := hide hW0s
      have HLEN := hide hlen
      clear hM hD hWs h0 hW0s hVs hW2s hsz hjj hii hlen hpre
      gi_wp2_with fail
      refine ⟨by simp, .inl ⟨_, _, rfl, run_takeDeferred hK, ?_⟩⟩
      have hm := HM.out
      have hr := hm.row
      rw [HLEN.out, hnn] at hr
      have hDD : bl + 3 ≤ D := by have := HD.out; have := HS0.out; omega
      refine ⟨_, results_tmp2 rfl _ _ _, w.heap.size + 2, rfl, ?_, hm.old.trans (below_put (by omega) _)⟩
      exact ownsRow_putObj hr _ hK rfl)
end Go.Proofs.Yteiljaecaahonaa
