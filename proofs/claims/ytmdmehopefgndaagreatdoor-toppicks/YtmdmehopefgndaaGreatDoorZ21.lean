import Derived.Test.YtmdmehopefgndaaGreatDoorZ20
import Derived.WalkMore
import Derived.Shelf.SlSortCmp.NoneTotal
import Derived.Shelf.SlicesG.Cmp
import Derived.Shelf.SlGeneric
import Derived.Shelf.Lay
import Derived.Ground.SlsfProg
import Derived.Ground.SlgcProg
import Derived.Test.YtmdmehopefgndaaGreatDoorZ07
import Derived.Laws.CopyOwn
/- The search for pairs: its contract. -/
namespace Go.Proofs.YtmdmehopefgndaaGreatDoor
open Go.RowKit
set_option linter.unusedVariables false
set_option maxHeartbeats 1000000
set_option maxRecDepth 100000
theorem run_cut2 (g n cap j : Nat) (hj : j ≤ cap) (w : World) :
    (Instr.slice 156 (.slice (some ⟨g, 0, none⟩) n cap) none (some (.int .i64 (j : Int))) none).run Tryz.prog w = .ok (.slice (some ⟨g, 0, none⟩) j cap) w := by
  have e1 : (0 : Int) ≤ (j : Int) ∧ (j : Int) ≤ (cap : Int) := by omega
  simp [Instr.slice, run_underlying Tryz.underlying156, Instr.sliceBounds, go_sem, e1]
theorem bsearch_any (a0 a1 : Option Addr) (n c0 c1 : Nat) (l t : List Int) (w : World) (h0 : Row .i32 w a0 n c0 l) (h1 : Row .i64 w a1 n c1 t) (hf : ∀ x ∈ l, (Lit.int .i32 x).wf = true) (hm : Marks w) (hn : n * 8 ≤ 140737488351232) :
    Calls Tryz.prog 112 #[.slice a0 n c0, .slice a1 n c1] w fun e w' => ∃ v, e = .returned v ∧ w'.ownsRow w.heap.size 41 2 v (Br.FF l t).length (flat2 (Br.FF l t)) ∧ Below w.heap.size w w' := by
  obtain ⟨iw, hiw, hy0, hy1, hy2⟩ := info_parts waitInfo
  obtain ⟨ip, hip, hz0, hz1, hz2⟩ := info_parts pairInfo
  have HIW := hide hiw
  have HY0 := hide hy0
  have HY1 := hide hy1
  have HY2 := hide hy2
  have HIP := hide hip
  have HZ0 := hide hz0
  have HZ1 := hide hz1
  have HZ2 := hide hz2
  have H0 := hide h0
  have H1 := hide h1
  have HF := hide hf
  have HM := hide hm
  have hbw := build_wait
  have hbw1 := build_wait1
  have hb2 := build_two
  have hb21 := build_pair1
  have hle := h0.le
  have hmx := h0.max
  unfold maxLen at hmx
  have HFF : Hid (Br.FF l t = Br.F (Br.kd l t) (Br.mt l) n) := hide (by rw [← h0.len]; rfl)
  clear hiw hy0 hy1 hy2 hip hz0 hz1 hz2 h0 h1 hf hm
  go_enter Tryz.func112, Tryz.ntmps112
  go_wp2
  go_step3
  go_wp2_with (at_make; refine wpList_make_own _ rfl _ _ 156 rfl w.heap.size 159 iw _ 2 Tryz.underlying156 HIW.out HY0.out HY1.out _ _ _ 63 rfl rfl rfl (by rw [HY2.out]; omega) (by unfold maxLen; omega) (Nat.le_refl _) ?_; intro w1 hown1 hg1)
  have HS0 : Hid (SW l w [] [] w.heap.size 63 (.slice none 0 0) w1) := hide ⟨Below.grown (Below.refl _ _) hg1 (Nat.le_refl _) (fun j hj => by cases hj), hown1, World.ownsRow_nil _ _ _ _⟩
  clear hown1 hg1
  go_step3
  go_wp2
  go_loopw [5, 6, 15] (fun s5 s6 s15 wr => ∃ (k : Nat) (W : List Nat) (ps : List (Nat × Nat)) (g cap : Nat) (vp : Value), vp = s5 ∧ s6 = .slice (some ⟨g, 0, none⟩) W.length cap ∧ s15 = .int .i64 k ∧ k ≤ n ∧ Hid (Br.at' (Br.kd l t) (Br.mt l) k = ⟨false, W, ps⟩) ∧ Hid (SW l w W ps g cap vp wr)) (fun s5 s6 s15 wr => n - (intOf s15).toNat)
  case atStart => exact ⟨0, [], [], w.heap.size, 63, _, rfl, rfl, rfl, by omega, hide rfl, HS0⟩
  case round =>
    obtain ⟨k, W, ps, g, cap, vp, hvp, rfl, rfl, hk, HA, HS⟩ := hrel
    subst hvp
    clear HS0
    by_cases hlt : k < n
    · have hlt' : (k : Int) < (n : Int) := by omega
      have HK := hide (H0.out.below HS.out.old)
      obtain ⟨b0, o0, e0, hb0, hc0⟩ := HK.out.cells (by omega)
      obtain ⟨b1, o1, e1, hb1, hc1⟩ := (H1.out.below HS.out.old).cells (by omega)
      have g0 := hc0 k (by rw [H0.out.len]; exact hlt)
      have g1 := hc1 k (by rw [H1.out.len]; exact hlt)
      subst e0; subst e1
      have hwl := HS.out.caps
      have hw6 : W.length ≤ 63 := by have := (Br.inv (kd := Br.kd l t) (mt := Br.mt l) k).wlen; rw [HA.out] at this; exact this
      have hpl : 2 * ps.length + W.length ≤ k := Br.ps_len HA.out
      have HXF : Hid ((Lit.int .i32 (l.getD k 0)).wf = true) := hide (HF.out _ (by
        have hl : k < l.length := by rw [H0.out.len]; exact hlt
        rw [show l.getD k 0 = l[k] from by simp [List.getD, List.getElem?_eq_getElem hl]]
        exact List.getElem_mem hl))
      have HBR := hide (bracket_any (l.getD k 0) wr HXF.out (HM.out.below HS.out.old))
      have HWB := hide HS.out.old
      clear hc0 hc1 hb0 hb1 HK
      by_cases ht : t.getD k 0 = 14
      · have HKD := hide (Br.kd_on (l := l) ht)
        rw [ht] at g1
        have hsd := Ucd.side_ok (l.getD k 0)
        have h3 : (Ucd.side (l.getD k 0)).1 = 0 ∨ (Ucd.side (l.getD k 0)).1 = 1 ∨ (Ucd.side (l.getD k 0)).1 = 2 := by omega
        have HEN : Hid (Br.en l k = Ucd.canon (Ucd.side (l.getD k 0)).2) := hide rfl
        have HMT : Hid (∀ x, Br.mt l x k = (Br.en l x == Ucd.canon (l.getD k 0))) := hide fun x => rfl
        clear ht hsd
        generalize (Ucd.side (l.getD k 0)).2 = pa at *
        rcases h3 with h3 | h3 | h3
        · rw [h3] at HBR HKD
          have HN := hide (Br.step_skip HA.out (by rw [HKD.out]; decide) (by rw [HKD.out]; decide))
          clear h3 HKD HA HMT HEN
          generalize l.getD k 0 = r at *
          go_wp2_with fail
          refine HBR.out.mono ?_
          rintro e w2 ⟨rfl, hb2'⟩
          have HS2 := hide (HS.out.below hb2')
          clear HS hb2' HBR
          go_wp2
          go_roundw
          case rel => exact ⟨k + 1, W, ps, g, cap, _, rfl, rfl, by go_num, by omega, HN, HS2⟩
          case measure => simp [intOf]; omega
        · rw [h3] at HBR HKD
          by_cases h6 : W.length = 63
          · have HN := hide (Br.F_full (n := n) HA.out HKD.out h6 hlt)
            clear h3 HKD HMT HEN
            generalize l.getD k 0 = r at *
            have h6' : (W.length : Int) = 63 := by omega
            go_wp2_with fail
            refine HBR.out.mono ?_
            rintro e w2 ⟨rfl, hb2'⟩
            have HS2 := hide (HS.out.below hb2')
            clear HS hb2' HBR
            rw [h6]
            go_wp2
            rw [Exit.noGoto_ret]
            go_ret
            refine ⟨_, rfl, ?_, HS2.out.old⟩
            rw [HFF.out, HN.out]
            exact HS2.out.ps
          · have HN := hide (Br.step_open HA.out HKD.out h6)
            have h6' : ¬ (W.length : Int) = 63 := by omega
            have h6b : ((W.length : Int) == 63) = false := beq_false_of_ne h6'
            have HCN := hide (fun V => canon_any pa V)
            clear h3 HKD HMT
            generalize l.getD k 0 = r at *
            generalize hWL : W.length = m at *
            have HWL := hide hWL
            clear hWL
            go_wp2_with fail
            refine HBR.out.mono ?_
            rintro e w2 ⟨rfl, hb2'⟩
            have HS2 := hide (HS.out.below hb2')
            clear HS hb2' HBR
            go_wp2_with fail
            refine (HCN.out _).mono ?_
            rintro e w3 ⟨rfl, rfl⟩
            rw [← HEN.out]
            generalize hEL : Br.en l k = el at *
            have HEL := hide hEL
            clear hEL HCN HEN
            go_wp2_with (at_builtin; refine wpList_append_two w2 rfl _ _ 156 rfl w.heap.size 159 iw _ Tryz.underlying156 HIW.out HY0.out HY1.out HY2.out rfl _ m (wcs l W) rfl (.int .i64 (k : Int)) (.int .i32 el) (by have := HS2.out.wt; rw [HWL.out] at this; exact this) _ rfl rfl (by simp [Value.oneCell']) (by omega) HS2.out.old.size ?_; intro v' w' ho' hg'; rw [← HWL.out] at ho' hg'; rw [← HEL.out] at ho' hg'; obtain ⟨g', cap', rfl, hsw⟩ := HS2.out.push ho' hg')
            go_roundw
            case rel => exact ⟨k + 1, k :: W, ps, g', cap', _, rfl, rfl, by go_num, by omega, HN, hide hsw⟩
            case measure => simp [intOf]; omega
        · rw [h3] at HBR HKD
          have HCN := hide (fun V => canon_any (l.getD k 0) V)
          have HKD2 := hide HKD.out
          clear h3 HEN
          generalize l.getD k 0 = r at *
          go_wp2_with fail
          refine HBR.out.mono ?_
          rintro e w2 ⟨rfl, hb2'⟩
          have HS2 := hide (HS.out.below hb2')
          clear HS hb2' HBR
          generalize Ucd.canon r = cr at *
          go_wp2
          have HSQ := hide (fun q1 q2 => (HS2.out.below (below_drewN w2 q1)).below (below_drewN _ q2))
          go_loopw [5, 6, 11] (fun s5 s6 s11 wi => ∃ (A R : List Nat) (q : Nat), vp = s5 ∧ s6 = .slice (some ⟨g, 0, none⟩) W.length cap ∧ s11 = .int .i64 ((R.length : Int) - 1) ∧ W = A ++ R ∧ wi = w2.drewN q ∧ Hid (Br.fd (Br.mt l) k W = Br.fd (Br.mt l) k R)) (fun s5 s6 s11 wi => (intOf s11 + 1).toNat)
          case atStart => exact ⟨[], W, 0, rfl, rfl, rfl, rfl, rfl, hide rfl⟩
          case round =>
            obtain ⟨A, R, q, hv5, rfl, rfl, hAR, rfl, HFD⟩ := hrel
            subst hv5
            cases R with
            | nil =>
              have HN := hide (Br.step_none HA.out HKD2.out (by rw [HFD.out]; rfl))
              have HS3 := hide (HS2.out.below (below_drewN w2 q))
              clear HFD hAR HA HS2 HSQ
              simp only [List.length_nil]
              go_wp2
              go_roundw
              case rel => exact ⟨k + 1, W, ps, g, cap, _, rfl, rfl, by go_num, by omega, HN, HS3⟩
              case measure => simp [intOf]; omega
            | cons x R =>
              obtain ⟨t0, t1⟩ := HS2.out.top hAR
              have hRW : R.length + 1 ≤ W.length := by rw [hAR]; simp
              have hge : (0 : Int) ≤ (R.length : Int) := by omega
              have hRi : ((R.length + 1 : Nat) : Int) - 1 = (R.length : Int) := by omega
              have HXM := HMT.out x
              simp only [List.length_cons]
              rw [hRi]
              by_cases hx : Br.en l x = cr
              · have HFX : Hid (Br.fd (Br.mt l) k W = x :: R) := hide (by rw [HFD.out, Br.fd, HXM, hx]; simp)
                have HN := hide (Br.step_some HA.out HKD2.out HFX.out)
                rw [hx] at t1
                have hcu := run_cut2 g W.length cap R.length (by omega)
                have HAR := hide (show W = (A ++ [x]) ++ R from by rw [hAR]; simp)
                generalize hRL : R.length = m at *
                have HRL := hide hRL
                generalize hWL : W.length = mW at *
                have HWL := hide hWL
                have hmW : (m : Int) < (mW : Int) := by omega
                clear HXM HFD hx hAR HFX HA hRL hWL
                go_wp2_with fail
                go_quiet (first | (go_at_call 126; first | exact Calls.quiet_of_same ((HCN.out _).mono fun _ _ ⟨he, hm⟩ => ⟨he, hm.symm⟩) | exact (HCN.out _).mono fun _ _ ⟨he, hm⟩ => ⟨he, _, hm.symm⟩))
                go_wp2_with (at_builtin; refine wpList_append_two (w2.drewN (q + nq)) rfl _ _ 23 rfl w.heap.size 41 ip _ Tryz.underlying23 HIP.out HZ0.out HZ1.out HZ2.out rfl vp ps.length (flat2 ps) rfl (.int .i64 (x : Int)) (.int .i64 (k : Int)) (HS2.out.below (below_drewN w2 (q + nq))).ps _ rfl rfl (by simp [Value.oneCell']) (by omega) (HS2.out.below (below_drewN w2 (q + nq))).old.size ?_; intro v' w' ho' hg'; have hsw := ((HS2.out.below (below_drewN w2 (q + nq))).pair (p := (x, k)) ho' hg').cut HAR.out)
                rw [← HRL.out]
                go_roundw
                case rel => exact ⟨k + 1, R, _, g, cap, _, rfl, rfl, by go_num, by omega, HN, hide hsw⟩
                case measure => simp [intOf]; omega
              · have HFX : Hid (Br.fd (Br.mt l) k W = Br.fd (Br.mt l) k R) := hide (by rw [HFD.out, Br.fd, HXM, if_neg (by simpa using hx)])
                have hxb : (Br.en l x == cr) = false := beq_false_of_ne hx
                have HAR := hide (show W = (A ++ [x]) ++ R from by rw [hAR]; simp)
                generalize hRL : R.length = m at *
                have HRL := hide hRL
                generalize hWL : W.length = mW at *
                have hmW : (m : Int) < (mW : Int) := by omega
                generalize Br.en l x = ex at *
                clear HXM HFD hx hAR HA hRL hWL
                go_wp2_with fail
                go_quiet (first | (go_at_call 126; first | exact Calls.quiet_of_same ((HCN.out _).mono fun _ _ ⟨he, hm⟩ => ⟨he, hm.symm⟩) | exact (HCN.out _).mono fun _ _ ⟨he, hm⟩ => ⟨he, _, hm.symm⟩))
                go_wp2
                go_roundw
                case rel => exact ⟨A ++ [x], R, _, rfl, rfl, by rw [HRL.out], HAR.out, rfl, HFX⟩
                case measure => simp [intOf]
      · have HN := hide (Br.step_skip HA.out (by rw [Br.kd_not ht]; decide) (by rw [Br.kd_not ht]; decide))
        clear HA HBR
        generalize t.getD k 0 = y at *
        have hy : (y == 14) = false := beq_false_of_ne ht
        generalize l.getD k 0 = r at *
        go_wp2
        go_roundw
        case rel => exact ⟨k + 1, W, ps, g, cap, _, rfl, rfl, by go_num, by omega, HN, HS⟩
        case measure => simp [intOf]; omega
    · obtain rfl : k = n := by omega
      have HFX : Hid (Br.FF l t = ps) := hide (by rw [HFF.out]; unfold Br.F; rw [HA.out])
      clear HA
      go_wp2
      rw [Exit.noGoto_ret]
      go_ret
      refine ⟨_, rfl, ?_, HS.out.old⟩
      rw [HFX.out]
      exact HS.out.ps
end Go.Proofs.YtmdmehopefgndaaGreatDoor

/- Pairs: the search, and the sort behind it: its contract. -/
namespace Go.Proofs
open Go.Shelf Go.RowKit Go.Lib Go.Sort
shelf_lay_g SlLaysF0.n6 Slsf 6 at Tryz 113 as Tryz.sortP
shelf_lay_g SlLaysC2.n5 Slgc 5 at Tryz 115 as Tryz.cmpInt
end Go.Proofs
namespace Go.Proofs.YtmdmehopefgndaaGreatDoor
open Go.Shelf Go.RowKit Go.Lib Go.Sort
set_option linter.unusedVariables false
set_option maxHeartbeats 1000000
set_option maxRecDepth 100000
/-- A pair's two cells. -/
def encP (x : Nat × Nat) : List Value := [.int .i64 (x.1 : Int), .int .i64 (x.2 : Int)]
def cfP (x y : Nat × Nat) : Int := Lib.compareInt (x.1 : Int) (y.1 : Int)
theorem ltP (x y : Nat × Nat) : ltOf cfP x y = decide (x.1 < y.1) := by
  unfold ltOf cfP Lib.compareInt
  by_cases h1 : x.1 < y.1
  · have : (x.1 : Int) < (y.1 : Int) := by omega
    simp [h1]
  · by_cases h2 : y.1 < x.1 <;> simp [h1, h2]
theorem swoP : SWO (ltOf cfP) where
  irrefl x := by rw [ltP]; simp
  trans x y z h1 h2 := by rw [ltP] at *; simp at *; omega
  ntrans x y z h1 h2 := by rw [ltP] at *; simp at *; omega
theorem cmpclos_any (x y : Nat × Nat) (W : World) : Calls Tryz.prog 114 #[.agg #[.int .i64 (x.1 : Int), .int .i64 (x.2 : Int)], .agg #[.int .i64 (y.1 : Int), .int .i64 (y.2 : Int)]] W fun e w' => e = .returned (.int .i64 (cfP x y)) ∧ ∃ q os', w' = grow (W.drewN q) os' := by
  have hcon := fun W' => AnyG.cmp_Compare_int Tryz.cmpInt (x.1 : Int) (y.1 : Int) W'
  change ∀ W', Calls Tryz.prog 115 _ _ _ at hcon
  unfold cfP
  generalize Lib.compareInt (x.1 : Int) (y.1 : Int) = r at hcon ⊢
  go_enter Tryz.func114, Tryz.ntmps114
  go_wp2_with (go_at_call 115; refine (hcon _).mono ?_; rintro e w' ⟨rfl, rfl⟩)
  go_ret
  exact ⟨rfl, 0, _, by rw [alloc_eq_grow, alloc_eq_grow, grow_grow]; rfl⟩
theorem cmpLaysP (blk off size : Nat) (w : World) : CmpLays Tryz.prog 114 #[] encP 2 cfP blk off size w :=
  fun _ _ _ _ x y => cmpclos_any x y _
theorem below_sort {B g m : Nat} {W : World} (hB : B ≤ g) (hg : g < W.heap.size) (d : Array (Nat × Nat)) (os : Array Obj) : Below B W (sortWorldK encP 2 W g 0 m d os) := by
  refine ⟨rfl, rfl, rfl, ?_, fun k hk => ?_⟩
  · simp [sortWorldK, grow, putRowK, putRow, mapBlock]
  · have hlt : k < W.heap.size := by omega
    have hne : ¬ g = k := by omega
    simp [sortWorldK, grow, putRowK, putRow, mapBlock, Array.getElem?_append, hlt, Array.getElem_modify, hne]
theorem holds_of_owns {W : World} {base g cap : Nat} {ps : List (Nat × Nat)} (h : W.ownsRow base 41 2 (.slice (some ⟨g, 0, none⟩) ps.length cap) ps.length (flat2 ps)) : HoldsK encP 2 W g 0 ps.toArray := by
  intro j hj
  simp only [size_flatK, List.size_toArray] at hj
  have hfr : W.frozen? ⟨g, 0 + j, none⟩ = false := by
    rcases h.2 with ⟨h0, _⟩ | ⟨g', cap', cur, hv, _, hg, _⟩
    · cases h0
    · cases hv; simp [World.frozen?, hg]
  refine ⟨?_, hfr⟩
  rw [Nat.zero_add, h.cellAt j (by omega), get_flatK _ _ _ _ (by simpa using hj)]
  have hq : j / 2 < ps.length := by omega
  obtain ⟨f0, f1⟩ := flat2_at ps (j / 2) hq
  have hd : (ps.toArray)[j / 2]! = ps.getD (j / 2) (0, 0) := by
    simp [List.getD, List.getElem?_eq_getElem hq]
  rcases Nat.mod_two_eq_zero_or_one j with h0 | h0
  · have e : j = j / 2 * 2 := by omega
    rw [h0, hd]
    rw [show (flat2 ps)[j]? = (flat2 ps)[j / 2 * 2]? from by rw [← e], f0]
    rfl
  · have e : j = j / 2 * 2 + 1 := by omega
    rw [h0, hd]
    rw [show (flat2 ps)[j]? = (flat2 ps)[j / 2 * 2 + 1]? from by rw [← e], f1]
    rfl
theorem pairs_of_holds {W : World} {g cap : Nat} {ps : List (Nat × Nat)} (h : HoldsK encP 2 W g 0 ps.toArray) (hg : g < W.heap.size) (hc : ps.length ≤ cap) (hm : cap ≤ maxLen) : Pairs W (some ⟨g, 0, none⟩) ps.length cap ps := by
  refine ⟨rfl, hc, hm, fun h0 => ⟨g, rfl, hg, fun k hk => ?_⟩, fun h => by cases h⟩
  have hd : (ps.toArray)[k]! = ps.getD k (0, 0) := by simp [List.getD, List.getElem?_eq_getElem hk]
  have c0 := (HoldsK.cell h (i := k) (c := 0) (by simpa using hk) (by omega))
  have c1 := (HoldsK.cell h (i := k) (c := 1) (by simpa using hk) (by omega))
  rw [hd] at c0 c1
  simp only [Nat.zero_add, Nat.add_zero] at c0 c1
  exact ⟨c0.1, c1.1⟩
theorem sorted_is {l t : List Int} {d' : Array (Nat × Nat)} (hp : PermIn 0 (Br.FF l t).toArray.size (Br.FF l t).toArray d') (hs : SortedIn (ltOf cfP) 0 (Br.FF l t).toArray.size d') : d' = (Br.PP l t).toArray := by
  obtain ⟨h1, _, h3⟩ := hp
  have hsz : d'.size = (Br.FF l t).length := by simpa using h1
  have e1 : d'.extract 0 (Br.FF l t).toArray.size = d' := by rw [← h1]; simp
  rw [e1] at h3
  have h4 : d'.toList.Perm (Br.FF l t) := by simpa using h3
  have h5 : d'.toList = Br.PP l t := by
    refine Br.PS_eq h4 ?_
    rw [List.pairwise_iff_getElem]
    intro i j hi hj hij
    have := hs i j (Nat.zero_le _) hij (by simp at hj ⊢; omega)
    rw [ltP] at this
    simp at hi hj
    rw [getElem!_pos d' j hj, getElem!_pos d' i hi] at this
    simpa using this
  rw [← h5]
theorem pairs_ok (a0 a1 : Option Addr) (n c0 c1 : Nat) (l t : List Int) (w : World) (h0 : Row .i32 w a0 n c0 l) (h1 : Row .i64 w a1 n c1 t) (hf : ∀ x ∈ l, (Lit.int .i32 x).wf = true) (hm : Marks w) (hn : n * 8 ≤ 140737488351232) :
    Calls Tryz.prog 89 #[.slice a0 n c0, .slice a1 n c1] w fun e w' => ∃ ao cap, e = .returned (.tuple #[.slice ao (Br.PP l t).length cap, .int .i64 0]) ∧ Pairs w' ao (Br.PP l t).length cap (Br.PP l t) ∧ Below w.heap.size w w' := by
  have HB := hide (bsearch_any a0 a1 n c0 c1 l t w h0 h1 hf hm hn)
  have hlen : (Br.FF l t).length ≤ n := by rw [← h0.len]; exact Br.F_len
  have hpl : (Br.PP l t).length = (Br.FF l t).length := Br.PS_len
  have eg : ∀ args w, (callFunc 114 args).run Tryz.prog w = .ok (.enter 114 args) w := enters_of Tryz.func114 (by kernel_rfl) rfl
  have HEG := hide eg
  have hle := h0.le
  have hmx := h0.max
  unfold maxLen at hmx
  clear h0 h1 hf hm eg
  go_enter Tryz.func89, Tryz.ntmps89
  go_wp2_with fail
  refine HB.out.mono ?_
  rintro e w1 ⟨v, rfl, ho, hb⟩
  obtain ⟨ao, cap, rfl, hcap⟩ := owns_form ho
  by_cases hz : (Br.FF l t).length = 0
  · have hcon := AnyF.slices_SortFunc_none Tryz.sortP ao cap (.func (.func 114) #[] #[]) w1
    change Calls Tryz.prog 113 _ _ _ at hcon
    have hp0 : Br.PP l t = [] := List.length_eq_zero_iff.1 (by omega)
    obtain ⟨a2, c2, e2, hp⟩ := pairs_of_owns ho
    simp only [Value.slice.injEq] at e2
    obtain ⟨rfl, _, rfl⟩ := e2
    have hF0 : Br.FF l t = [] := List.length_eq_zero_iff.1 hz
    rw [hF0] at hp ⊢
    have HP := hide hp
    have HP0 := hide hp0
    have HBB := hide hb
    have HC := hide hcon
    clear hp hb ho hcon HB hp0 hF0 hz hcap hlen hpl
    simp only [List.length_nil]
    go_wp2_with (go_at_call 113; refine HC.out.mono ?_; rintro e w' ⟨rfl, rfl⟩)
    go_ret2
    exact ⟨ao, cap, by rw [HP0.out]; rfl, by rw [HP0.out]; exact HP.out, HBB.out⟩
  · obtain ⟨g, cap2, e2, hbg, hle2⟩ := owns_pos ho (by omega)
    simp only [Value.slice.injEq] at e2
    obtain ⟨rfl, _, rfl⟩ := e2
    have hg : g < w1.heap.size := (ho.lt g rfl).2
    have hH := holds_of_owns ho
    have hcx : cap ≤ maxLen := by
      rcases ho.2 with ⟨h0, _⟩ | ⟨g', cap', cur, hv, _, _, _, h2, _⟩
      · cases h0
      · cases hv; exact h2
    have hcon := AnyQ.slices_SortFunc Tryz.sortP 2 Tryz.isAgg41 Tryz.sizeOf41 encP (fun _ => rfl) (fun x v hv => by simp [encP] at hv; rcases hv with rfl | rfl <;> rfl) cfP swoP 114 #[] g 0 cap (Br.FF l t).toArray w1 HEG.out (cmpLaysP g 0 _ w1) hH hg (by simp; omega)
    change Calls Tryz.prog 113 _ _ _ at hcon
    have HC : Hid (Calls Tryz.prog 113 #[.slice (some ⟨g, 0, none⟩) (Br.FF l t).length cap, .func (.func 114) #[] #[]] w1 fun e w' => e = .returned (.tuple #[]) ∧ Pairs w' (some ⟨g, 0, none⟩) (Br.PP l t).length cap (Br.PP l t) ∧ Below w.heap.size w w') := hide (by
      refine hcon.mono ?_
      rintro e w' ⟨rfl, d', m, os, hp, hs, rfl⟩
      have hd := sorted_is hp hs
      subst hd
      refine ⟨rfl, ?_, hb.trans (below_sort hbg hg _ _)⟩
      refine pairs_of_holds ?_ ?_ (by omega) hcx
      · unfold sortWorldK
        exact holdsK_grow encP 2 _ _ g 0 _ (by simp [putRowK, putRow, mapBlock]; exact hg) (holdsK_putRowK encP 2 _ g 0 _ _ (holdsK_ahead encP 2 w1 m g 0 _ hH) (by simp; omega))
      · have := (below_sort (m := m) (Nat.zero_le g) hg (Br.PP l t).toArray os).size
        omega)
    clear hcon hH ho hb HB hbg hg
    generalize (Br.FF l t).length = q at *
    go_wp2_with (go_at_call 113; refine HC.out.mono ?_; rintro e w' ⟨rfl, hp', hb'⟩)
    go_ret2
    exact ⟨_, cap, by rw [hpl]; rfl, hp', hb'⟩
theorem pairs_bad (a0 a1 : Option Addr) (n m c0 c1 : Nat) (w : World) (hne : ¬ n = m) (hn : n ≤ 9223372036854775807) (hm : m ≤ 9223372036854775807) :
    Calls Tryz.prog 89 #[.slice a0 n c0, .slice a1 m c1] w fun e w' => e = .returned (.tuple #[.slice none 0 0, .int .i64 2]) ∧ w = w' := by
  have h1 : ((n : Int) == (m : Int)) = false := beq_false_of_ne (by omega)
  have h2 : ¬ (n : Int) = (m : Int) := by omega
  go_enter Tryz.func89, Tryz.ntmps89
  go_wp2
  go_ret2
  exact ⟨rfl, rfl⟩
end Go.Proofs.YtmdmehopefgndaaGreatDoor

/- A row of the caller's own that is written; 'copy' of a whole row. -/
namespace Go.Proofs.YtmdmehopefgndaaGreatDoor
open Go.RowKit
set_option linter.unusedVariables false
set_option maxHeartbeats 1000000
set_option maxRecDepth 100000
/-- A row of the caller's own that is written. -/
structure OW (base g n cap : Nat) (zs : List Int) (w0 w : World) : Prop where
  own : w.ownsRow base 3 1 (.slice (some ⟨g, 0, none⟩) n cap) n (zs.map (Value.int .i64))
  bel : Below base w0 w
theorem OW.len {base g n cap : Nat} {zs : List Int} {w0 w : World} (h : OW base g n cap zs w0 w) : zs.length = n := by have := h.own.1; simpa using this
theorem OW.set {base g n cap : Nat} {zs : List Int} {w0 w : World} (h : OW base g n cap zs w0 w) (k : Nat) (y : Int) : OW base g n cap (zs.set k y) w0 (w.setCell ⟨g, k, none⟩ (.int .i64 y)) :=
  ⟨owns_set h.own k y, h.bel.setCell (p := ⟨g, k, none⟩) (h.own.lt g rfl).1 _⟩
theorem OW.drew {base g n cap : Nat} {zs : List Int} {w0 w : World} (h : OW base g n cap zs w0 w) : OW base g n cap zs w0 w.drew := ⟨h.own.drew, h.bel.drew⟩
theorem OW.drewN {base g n cap : Nat} {zs : List Int} {w0 w : World} (h : OW base g n cap zs w0 w) (k : Nat) : OW base g n cap zs w0 (w.drewN k) := by
  have hb := h.bel
  exact ⟨⟨h.own.1, h.own.2⟩, ⟨hb.os, hb.tape, hb.output, hb.size, hb.block⟩⟩
theorem OW.cell {base g n cap : Nat} {zs : List Int} {w0 w : World} (h : OW base g n cap zs w0 w) {k : Nat} (hk : k < n) : w.cell? ⟨g, k, none⟩ = some (.int .i64 (zs.getD k 0)) := owns_cell h.own k hk
theorem OW.row {base g n cap : Nat} {zs : List Int} {w0 w : World} (h : OW base g n cap zs w0 w) : Row .i64 w (some ⟨g, 0, none⟩) n cap zs := row_owned h.own
theorem below_setRow' {B : Nat} {w w' : World} (h : Below B w w') {g : Nat} (hg : B ≤ g) (cs : Array Value) : Below B w (w'.setRow g cs) :=
  ⟨h.os, h.tape, h.output, by rw [setRow_size]; exact h.size, fun i hi => by rw [setRow_other _ _ _ _ (by omega)]; exact h.block i hi⟩
theorem block_owns {w : World} {base g n : Nat} {xs : List Value} (h : w.ownsRow base 3 1 (.slice (some ⟨g, 0, none⟩) n n) n xs) : w.heap[g]? = some (.cells xs.toArray 3 (0, 0)) := by
  rcases h.2 with ⟨h0, _⟩ | ⟨g', cap', cur, hv, hbs, hh, hle, hm, hsz, ht⟩
  · cases h0
  · cases hv
    rw [hh]
    have : cur.toList.take (n * 1) = cur.toList := List.take_of_length_le (by rw [Array.length_toList, hsz]; exact Nat.le_refl _)
    rw [this] at ht
    rw [← ht]
theorem splice_all (xs cs : List Value) (h : xs.length = cs.length) : splice xs 0 cs = cs := by
  unfold splice
  simp [← h]
theorem sizeInt : (Tryz.prog.info? 3).map (·.size) = some 1 := by kernel_rfl
/-- An argument's cells, for a copy. -/
theorem Row.src {w : World} {ao : Option Addr} {n cap : Nat} {zs : List Int} (h : Row .i64 w ao n cap zs) (h0 : 0 < n) : ∃ ad, ao = some ad ∧ ∀ j v, (zs.map (Value.int .i64))[j]? = some v → w.cell? (ad.add j) = some v := by
  obtain ⟨b, off, rfl, hb, hc⟩ := h.cells h0
  refine ⟨_, rfl, fun j v hj => ?_⟩
  have hjl : j < zs.length := by
    have := (List.getElem?_eq_some_iff.1 hj).1
    simpa using this
  have hadd : (⟨b, off, none⟩ : Addr).add j = ⟨b, off + j, none⟩ := by unfold Addr.add; split <;> simp_all
  rw [hadd, hc j hjl]
  rw [List.getElem?_map, List.getElem?_eq_getElem hjl] at hj
  simp only [Option.map_some, Option.some.injEq] at hj
  rw [← hj]
  simp [List.getD, List.getElem?_eq_getElem hjl]
/-- 'copy' of a whole row into one that is as long. -/
theorem run_copy_ints {w1 w0 : World} {B g n cap : Nat} {ao : Option Addr} {c : List Int} {cur : List Value} (h : Row .i64 w1 ao n cap c) (hg : w1.heap[g]? = some (.cells cur.toArray 3 (0, 0))) (hl : cur.length = n) (hb : Below B w0 w1) (hB : B ≤ g) :
    ∃ w2, (Builtin.copy_ #[27, 27] 3 #[.slice (some ⟨g, 0, none⟩) n n, .slice ao n cap]).run Tryz.prog w1 = .ok (.int .i64 (n : Int)) w2 ∧ w2.heap[g]? = some (.cells (c.map (Value.int .i64)).toArray 3 (0, 0)) ∧ Below B w0 w2 := by
  have hcl : (c.map (Value.int .i64)).length = n := by rw [List.length_map, h.len]
  by_cases h0 : n = 0
  · have hrun := run_copy_none (P := Tryz.prog) w1 27 27 3 3 (some ⟨g, 0, none⟩) ao n n n cap Tryz.underlying27 sizeInt (by rw [h0]; rfl)
    refine ⟨w1, by rw [hrun, h0]; rfl, ?_, hb⟩
    have e1 : cur = [] := List.eq_nil_of_length_eq_zero (by omega)
    have e2 : c = [] := List.eq_nil_of_length_eq_zero (by rw [h.len]; exact h0)
    rw [hg, e1, e2]; rfl
  · obtain ⟨ad, rfl, hsrc⟩ := h.src (by omega)
    have hrun := run_copy_row (P := Tryz.prog) w1 27 27 3 3 g 0 n n ad n cap cur.toArray 3 (c.map (Value.int .i64)) Tryz.underlying27 sizeInt hg (by rw [hcl]; exact (Nat.min_self n).symm) hsrc (by rw [hcl, List.size_toArray]; omega) (ints_oneCell .i64 c)
    refine ⟨_, by rw [hrun, hcl]; rfl, ?_, below_setRow' hb hB _⟩
    rw [setRow_heap w1 g _ _ _ _ hg]
    have := splice_all cur (c.map (Value.int .i64)) (by rw [hcl, hl])
    unfold splice at this
    rw [hcl] at this
    rw [List.append_assoc, this]
end Go.Proofs.YtmdmehopefgndaaGreatDoor

/- The small functions of bracket: mayBe, levelSide, side, ahead, direction, give. -/
namespace Go.Proofs.YtmdmehopefgndaaGreatDoor
open Go.RowKit
set_option linter.unusedVariables false
set_option maxHeartbeats 1000000
set_option maxRecDepth 100000
theorem bmay_cases (x : Int) : (x = 1) ∨ (¬ x = 1 ∧ x = 2) ∨ (¬ x = 1 ∧ ¬ x = 2 ∧ x = 4) ∨ (¬ x = 1 ∧ ¬ x = 2 ∧ ¬ x = 4 ∧ x = 7) ∨ (¬ x = 1 ∧ ¬ x = 2 ∧ ¬ x = 4 ∧ ¬ x = 7 ∧ x = 11) ∨ (¬ x = 1 ∧ ¬ x = 2 ∧ ¬ x = 4 ∧ ¬ x = 7 ∧ ¬ x = 11 ∧ x = 12) ∨ (¬ x = 1 ∧ ¬ x = 2 ∧ ¬ x = 4 ∧ ¬ x = 7 ∧ ¬ x = 11 ∧ ¬ x = 12 ∧ x = 13) ∨ (¬ x = 1 ∧ ¬ x = 2 ∧ ¬ x = 4 ∧ ¬ x = 7 ∧ ¬ x = 11 ∧ ¬ x = 12 ∧ ¬ x = 13 ∧ x = 14) ∨ (¬ x = 1 ∧ ¬ x = 2 ∧ ¬ x = 4 ∧ ¬ x = 7 ∧ ¬ x = 11 ∧ ¬ x = 12 ∧ ¬ x = 13 ∧ ¬ x = 14 ∧ x = 20) ∨ (¬ x = 1 ∧ ¬ x = 2 ∧ ¬ x = 4 ∧ ¬ x = 7 ∧ ¬ x = 11 ∧ ¬ x = 12 ∧ ¬ x = 13 ∧ ¬ x = 14 ∧ ¬ x = 20 ∧ x = 21) ∨ (¬ x = 1 ∧ ¬ x = 2 ∧ ¬ x = 4 ∧ ¬ x = 7 ∧ ¬ x = 11 ∧ ¬ x = 12 ∧ ¬ x = 13 ∧ ¬ x = 14 ∧ ¬ x = 20 ∧ ¬ x = 21 ∧ x = 22) ∨ (¬ x = 1 ∧ ¬ x = 2 ∧ ¬ x = 4 ∧ ¬ x = 7 ∧ ¬ x = 11 ∧ ¬ x = 12 ∧ ¬ x = 13 ∧ ¬ x = 14 ∧ ¬ x = 20 ∧ ¬ x = 21 ∧ ¬ x = 22 ∧ x = 23) ∨ (¬ x = 1 ∧ ¬ x = 2 ∧ ¬ x = 4 ∧ ¬ x = 7 ∧ ¬ x = 11 ∧ ¬ x = 12 ∧ ¬ x = 13 ∧ ¬ x = 14 ∧ ¬ x = 20 ∧ ¬ x = 21 ∧ ¬ x = 22 ∧ ¬ x = 23) := by omega
theorem bmayBe_any (x : Int) (w : World) : Calls Tryz.prog 90 #[.int .i64 x] w fun e w' => e = .returned (.bool (Br.may x)) ∧ w = w' := by
  rcases bmay_cases x with rfl | ⟨h1, rfl⟩ | ⟨h1, h2, rfl⟩ | ⟨h1, h2, h3, rfl⟩ | ⟨h1, h2, h3, h4, rfl⟩ | ⟨h1, h2, h3, h4, h5, rfl⟩ | ⟨h1, h2, h3, h4, h5, h6, rfl⟩ | ⟨h1, h2, h3, h4, h5, h6, h7, rfl⟩ | ⟨h1, h2, h3, h4, h5, h6, h7, h8, rfl⟩ | ⟨h1, h2, h3, h4, h5, h6, h7, h8, h9, rfl⟩ | ⟨h1, h2, h3, h4, h5, h6, h7, h8, h9, h10, rfl⟩ | ⟨h1, h2, h3, h4, h5, h6, h7, h8, h9, h10, h11, rfl⟩ | ⟨h1, h2, h3, h4, h5, h6, h7, h8, h9, h10, h11, h12⟩
  rotate_left 12
  · have e : Br.may x = false := by simp [Br.may, h1, h2, h3, h4, h5, h6, h7, h8, h9, h10, h11, h12]
    rw [e]; clear e
    go_enter Tryz.func90, Tryz.ntmps90
    go_wp2
    go_ret
    exact ⟨rfl, rfl⟩
  all_goals
    go_enter Tryz.func90, Tryz.ntmps90
    go_wp2
    go_ret
    exact ⟨rfl, rfl⟩
theorem side_cases (x : Int) : (x = 1) ∨ (¬ x = 1 ∧ x = 2) ∨ (¬ x = 1 ∧ ¬ x = 2 ∧ x = 4) ∨ (¬ x = 1 ∧ ¬ x = 2 ∧ ¬ x = 4 ∧ x = 7) ∨ (¬ x = 1 ∧ ¬ x = 2 ∧ ¬ x = 4 ∧ ¬ x = 7) := by omega
theorem bside_any (x : Int) (w : World) : Calls Tryz.prog 116 #[.int .i64 x] w fun e w' => e = .returned (.int .i64 (Br.sd x)) ∧ w = w' := by
  rcases side_cases x with rfl | ⟨h1, rfl⟩ | ⟨h1, h2, rfl⟩ | ⟨h1, h2, h3, rfl⟩ | ⟨h1, h2, h3, h4⟩
  rotate_left 4
  · have e : Br.sd x = 0 := by simp [Br.sd, h1, h2, h3, h4]
    rw [e]; clear e
    go_enter Tryz.func116, Tryz.ntmps116
    go_wp2
    go_ret
    exact ⟨rfl, rfl⟩
  all_goals
    go_enter Tryz.func116, Tryz.ntmps116
    go_wp2
    go_ret
    exact ⟨rfl, rfl⟩
theorem levelSide_any (lv : Int) (hl : 0 ≤ lv) (w : World) : Calls Tryz.prog 91 #[.int .i64 lv] w fun e w' => e = .returned (.int .i64 (Br.es lv)) ∧ w = w' := by
  have ht : lv.tmod 2 = lv % 2 := Int.tmod_eq_emod_of_nonneg hl
  have h2 : lv % 2 = 0 ∨ lv % 2 = 1 := by omega
  rcases h2 with h2 | h2
  · have e : Br.es lv = 1 := by unfold Br.es; rw [if_neg (by omega)]
    rw [e]
    rw [h2] at ht
    clear e h2
    go_enter Tryz.func91, Tryz.ntmps91
    go_wp2
    go_ret
    exact ⟨rfl, rfl⟩
  · have e : Br.es lv = 2 := by unfold Br.es; rw [if_pos h2]
    rw [e]
    rw [h2] at ht
    clear e h2
    go_enter Tryz.func91, Tryz.ntmps91
    go_wp2
    go_ret
    exact ⟨rfl, rfl⟩
theorem bahead_any (ao : Option Addr) (n cap : Nat) (zs : List Int) (s : Int) (w : World) (h : Row .i64 w ao n cap zs) (hn : n ≤ 17592186044416) :
    Calls Tryz.prog 117 #[.slice ao n cap, .int .i64 s] w fun e w' => e = .returned (.int .i64 (Br.ah zs s n)) ∧ w = w' := by
  have H := hide h
  clear h
  go_enter Tryz.func117, Tryz.ntmps117
  go_wp2
  go_loopw [5] (fun s5 wr => ∃ k : Nat, s5 = .int .i64 ((k : Int) - 1) ∧ k ≤ n ∧ Hid (Br.ah zs s n = Br.ah zs s k) ∧ w = wr) (fun s5 _ => (intOf s5 + 1).toNat)
  case atStart => exact ⟨n, rfl, Nat.le_refl _, hide rfl, rfl⟩
  case round =>
    obtain ⟨k, rfl, hk, HA, rfl⟩ := hrel
    cases k with
    | zero =>
      have HE : Hid (Br.ah zs s n = s) := hide (by rw [HA.out]; rfl)
      clear HA
      go_wp2
      go_ret
      exact ⟨ret_int HE.out.symm, rfl⟩
    | succ k =>
      obtain ⟨b, off, rfl, hb, hc⟩ := H.out.cells (by omega)
      have g0 := hc k (by rw [H.out.len]; omega)
      have hkn : (k : Int) < (n : Int) := by omega
      have hk0 : (0 : Int) ≤ (k : Int) := by omega
      have hki : ((k + 1 : Nat) : Int) - 1 = (k : Int) := by omega
      rw [hki]
      have HS := hide (bside_any (zs.getD k 0) w)
      by_cases hs : Br.sd (zs.getD k 0) = 0
      · have HE : Hid (Br.ah zs s n = Br.ah zs s k) := hide (by rw [HA.out, Br.ah, if_pos hs])
        rw [hs] at HS
        clear HA hs hc hb
        generalize zs.getD k 0 = x at *
        go_wp2_with (go_at_call 116; refine HS.out.mono ?_; rintro e w' ⟨rfl, rfl⟩)
        go_roundw
        case rel => exact ⟨k, rfl, by omega, HE, trivial⟩
        case measure => simp [intOf]
      · have HE : Hid (Br.ah zs s n = Br.sd (zs.getD k 0)) := hide (by rw [HA.out, Br.ah, if_neg hs])
        clear HA hc hb
        generalize zs.getD k 0 = x at *
        generalize Br.sd x = y at *
        have hy : (y != 0) = true := bne_iff_ne.2 hs
        go_wp2_with (go_at_call 116; refine HS.out.mono ?_; rintro e w' ⟨rfl, rfl⟩)
        go_ret
        exact ⟨ret_int HE.out.symm, rfl⟩
end Go.Proofs.YtmdmehopefgndaaGreatDoor
