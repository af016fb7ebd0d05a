/- NeutralTurned: seen from behind, with what stands ahead and behind changed about, it is the same. -/
import Derived.Test.YtbpjacalnipkgaaNl
namespace Go.Proofs.Ytbpjacalnipkgaa
open Go.RowKit
set_option linter.unusedVariables false
set_option maxHeartbeats 1000000
set_option maxRecDepth 100000
namespace Ne
theorem getD_eq (t : List Int) (i : Nat) : t.reverse.reverse.getD i 0 = t.getD i 0 := by rw [List.reverse_reverse]
theorem ok_rev_iff (t : List Int) : Ok t.reverse ↔ Ok t := ⟨fun h => by have := ok_rev h; rwa [List.reverse_reverse] at this, ok_rev⟩
theorem AR_rev {t : List Int} {lv so eo : Int} {L : List Int} {E : Int} (h : AR t lv so eo L E) :
    ∃ L', AR t.reverse lv eo so L' E ∧ L'.length = L.length ∧ L.length ≤ t.length ∧ ∀ i, i < L.length → L'.getD (L.length - 1 - i) 0 = L.getD i 0 := by
  have hg : Good lv eo so ↔ Good lv so eo := by unfold Good; omega
  rcases h with ⟨h1, rfl, rfl⟩ | ⟨h1, h2, rfl, rfl⟩ | ⟨h1, h2, rfl, rfl⟩
  · exact ⟨[], .inl ⟨fun h => h1 (hg.1 h), rfl, rfl⟩, rfl, Nat.zero_le _, fun i hi => absurd hi (by simp)⟩
  · exact ⟨[], .inr (.inl ⟨hg.2 h1, fun h => h2 ((ok_rev_iff t).1 h), rfl, rfl⟩), rfl, Nat.zero_le _, fun i hi => absurd hi (by simp)⟩
  · refine ⟨RS t.reverse lv eo so, .inr (.inr ⟨hg.2 h1, ok_rev h2, rfl, rfl⟩), by rw [RS_len, RS_len, List.length_reverse], by rw [RS_len]; exact Nat.le_refl _, fun i hi => ?_⟩
    rw [RS_len] at hi ⊢
    exact turned t lv so eo hi
theorem rev_take (t : List Int) {k : Nat} (hk : k < t.length) : t.reverse.take (k + 1) = t.reverse.take k ++ [t.getD (t.length - 1 - k) 0] := by
  refine take_snoc2 _ _ _ ?_
  rw [List.getElem?_reverse hk]
  have h2 : t.length - 1 - k < t.length := by omega
  simp [List.getD, h2]
end Ne
/-- A row that grows by one append a round. -/
structure RG (w : World) (zs : List Int) (k : Nat) (sv : Value) (wr : World) : Prop where
  own : wr.ownsRow w.heap.size 3 1 sv k (zs.map (Value.int .i64))
  bel : Below w.heap.size w wr
theorem RG.snoc {w : World} {zs ys : List Int} {k : Nat} {x : Int} {v2 : Value} {wr w2 : World} {o : Obj} (hw : Below w.heap.size w wr) (hb : Below w.heap.size (wr.alloc o) w2) (ho : w2.ownsRow w.heap.size 3 1 v2 (k + 1) (zs.map (Value.int .i64) ++ [x].map (Value.int .i64))) (hy : ys = zs ++ [x]) : RG w ys (k + 1) v2 w2 :=
  ⟨by rw [hy, List.map_append]; exact ho, Below.trans (Below.alloc hw hw.size _) hb⟩
theorem NeutralTurned_walk (w : World) (a0 : Option Addr) (n0 cap0 : Nat) (t : List Int) (h0 : Row .i64 w a0 n0 cap0 t) (hf0 : ∀ x ∈ t, (Lit.int .i64 x).wf = true) (hs0 : n0 * 8 ≤ 140737488351232) (lv so eo : Int) (hwl : (Lit.int .i64 lv).wf = true) (hws : (Lit.int .i64 so).wf = true) (hwe : (Lit.int .i64 eo).wf = true) :
    Calls Try.prog 6 #[.slice a0 n0 cap0, .agg #[.int .i64 lv, .int .i64 so, .int .i64 eo]] w fun e w' => e = .returned (.bool true) ∧ Below w.heap.size w w' := by
  obtain ⟨ii, hii, hy0, hy1, hy2⟩ := info_parts infoInt
  have HII : Hid (Try.prog.info? 3 = some ii) := hii
  have HY0 := hide hy0
  have HY1 := hide hy1
  have HY2 := hide hy2
  have HW := hide (fun w' => works11_any w')
  have hn2 : n0 ≤ 17592186044416 := by omega
  obtain ⟨L, E, hA⟩ := Ne.AR_some t lv so eo
  obtain ⟨L', hA', hl1, hl2, hl3⟩ := Ne.AR_rev hA
  have HR := hide (fun (w' : World) (hk : KO w w') => resolve_any a0 n0 cap0 lv so eo t w' (h0.below hk) hf0 hs0 L E hA)
  have HB := hide (fun (ab : Option Addr) (cb : Nat) (w' : World) (hr : Row .i64 w' ab n0 cb t.reverse) => resolve_any ab n0 cb lv eo so t.reverse w' hr (fun x hx => hf0 x (List.mem_reverse.1 hx)) hs0 L' E hA')
  rw [hl1] at HB
  rw [h0.len] at hl2
  have H0 := hide h0
  have HLEN := hide h0.len
  have HL3 := hide hl3
  have HL1 := hide hl1
  obtain ⟨l, hl⟩ : ∃ l, L.length = l := ⟨_, rfl⟩
  rw [hl] at HR HB HL3 HL1 hl2
  have HLL := hide hl
  have hl2' : l ≤ 17592186044416 := by omega
  have HN0 := hide hs0
  have HL2 := hide hl2
  clear hA hA' h0 hf0 hs0 hwl hws hwe hl1 hl2 hl3 hl hii hy0 hy1 hy2
  have HX := hide (show KO w (w.alloc (.cells #[.int .i64 lv, .int .i64 so, .int .i64 eo] 24)) from KO.alloc (KO.refl _) _)
  have e0 : wrap64 ((n0 : Int) - 1) = (n0 : Int) - 1 := w64_small (by omega) (by omega)
  go_enter Try.func6, Try.ntmps6
  go_wp2_with fail
  refine (HW.out _).mono ?_
  rintro e w1 ⟨rfl, hk1⟩
  have K1 := hide (KO.on HX.out hk1)
  have HBLK := hide (show w1.heap[w.heap.size]? = some (.cells #[.int .i64 lv, .int .i64 so, .int .i64 eo] 24 (0, 0)) from (Below.block hk1 _ (by simp)).trans (World.alloc_heap_new w _))
  clear hk1 HW HX
  go_wp2
  go_loopw [5, 6] (fun v5 v6 wr => ∃ k : Nat, k ≤ n0 ∧ v6 = .int .i64 ((n0 : Int) - 1 - (k : Int)) ∧ Hid (RG w1 (t.reverse.take k) k v5 wr)) (fun _ v6 _ => (intOf v6 + 1).toNat)
  case atStart => exact ⟨0, by omega, by simp, hide ⟨World.ownsRow_nil _ _ _ _, Below.refl _ _⟩⟩
  case round =>
    obtain ⟨k, hk, rfl, hm⟩ := hrel
    by_cases hlt : k < n0
    · obtain ⟨i, hi⟩ : ∃ i : Nat, n0 - 1 - k = i := ⟨_, rfl⟩
      have hii : (n0 : Int) - 1 - (k : Int) = (i : Int) := by omega
      have hin : (i : Int) < (n0 : Int) := by omega
      obtain ⟨b, off, rfl, hbl, hc⟩ := (H0.out.below (KO.on K1.out hm.out.bel)).cells (by omega)
      have ck := hc i (by rw [HLEN.out]; omega)
      have hrt := Ne.rev_take t (show k < t.length by rw [HLEN.out]; exact hlt)
      rw [HLEN.out, hi] at hrt
      have HSN := hide (fun (v2 : Value) (w2 : World) (o : Obj) => RG.snoc (w := w1) (zs := t.reverse.take k) (ys := t.reverse.take (k + 1)) (k := k) (x := t.getD i 0) (v2 := v2) (wr := wr) (w2 := w2) (o := o) hm.out.bel (hy := hrt))
      have HOW := hide hm.out.own
      have hsz := hm.out.bel.size
      rw [hii]
      have e2 : wrap64 ((i : Int) - 1) = (i : Int) - 1 := w64_small (by omega) (by omega)
      clear hc hbl hm hrt
      generalize t.getD i 0 = x at *
      go_wp2_with (at_builtin; refine wpList_append_row _ rfl (.tmp 21) (.tmp 26) 22 rfl w1.heap.size 3 ii (.int .i64 0) 8 Try.underlying22 HII.out HY0.out HY1.out HY2.out rfl _ k _ rfl (HOW.out.alloc _) .i64 _ 1 1 [x] rfl (row_one _ wr.heap.size rfl x) (by omega) (by omega) (by simp; omega) ?_; intro v2 w2 hown2 hb2)
      have HM := hide (HSN.out v2 w2 _ hb2 hown2)
      clear hown2 hb2 HSN HOW
      go_roundw
      case rel => exact ⟨k + 1, by omega, congrArg (Value.int .i64) (by omega), HM⟩
      case measure => simp [intOf]
    · obtain rfl : k = n0 := by omega
      have hii : (k : Int) - 1 - (k : Int) = -1 := by omega
      rw [hii]
      rw [show k = t.reverse.length from by rw [List.length_reverse, HLEN.out], List.take_length, List.length_reverse, HLEN.out] at hm
      obtain ⟨ab, cb, rfl, hrb⟩ := row_of_owns hm.out.own
      have KR := hide (KO.on K1.out hm.out.bel)
      have HR1 := hide (HR.out wr KR.out)
      have HRB := hide hrb
      have hblk : wr.heap[w.heap.size]? = some (.cells #[.int .i64 lv, .int .i64 so, .int .i64 eo] 24 (0, 0)) := (hm.out.bel.block _ (Array.getElem?_eq_some_iff.1 HBLK.out).1).trans HBLK.out
      have x0 : wr.cell? ⟨w.heap.size, 0, none⟩ = some (.int .i64 lv) := by simp [World.cell?, hblk]
      have x1 : wr.cell? ⟨w.heap.size, 1, none⟩ = some (.int .i64 so) := by simp [World.cell?, hblk]
      have x2 : wr.cell? ⟨w.heap.size, 2, none⟩ = some (.int .i64 eo) := by simp [World.cell?, hblk]
      have HBL2 := hide hblk
      clear hrb hm hblk HBLK HR hlt e0
      go_wp2_with fail
      refine HR1.out.mono ?_
      rintro e w3 ⟨a3, c3, rfl, hr3, hk3⟩
      have HB3 := hide (HB.out ab cb w3 (HRB.out.below hk3))
      have hblk : w3.heap[w.heap.size]? = some (.cells #[.int .i64 lv, .int .i64 so, .int .i64 eo] 24 (0, 0)) := (Below.block hk3 _ (Array.getElem?_eq_some_iff.1 HBL2.out).1).trans HBL2.out
      have z0 : w3.cell? ⟨w.heap.size, 0, none⟩ = some (.int .i64 lv) := by simp [World.cell?, hblk]
      have z1 : w3.cell? ⟨w.heap.size, 1, none⟩ = some (.int .i64 so) := by simp [World.cell?, hblk]
      have z2 : w3.cell? ⟨w.heap.size, 2, none⟩ = some (.int .i64 eo) := by simp [World.cell?, hblk]
      have K3 := hide (KO.on KR.out hk3)
      have N3 := hide hr3
      clear hblk hr3 hk3 HR1 HB HBL2 x0 x1 x2 KR
      go_wp2_with fail
      refine HB3.out.mono ?_
      rintro e w4 ⟨a4, c4, rfl, hr4, hk4⟩
      have K4 := hide (KO.on K3.out hk4)
      have N4 := hide hr4
      have M4 := hide (N3.out.below hk4)
      clear hr4 hk4 HB3 z0 z1 z2 K3 N3
      go_wp2
      go_loopw [62] (fun v wr => ∃ j : Nat, v = .int .i64 (j : Int) ∧ j ≤ l ∧ Hid (∃ q, wr = w4.drewN q)) (fun v _ => l - (intOf v).toNat)
      case atStart => exact ⟨0, rfl, Nat.zero_le _, hide ⟨0, rfl⟩⟩
      case round =>
        obtain ⟨j, rfl, hj, hd⟩ := hrel
        by_cases hlt : j < l
        · have hin : (j : Int) < (l : Int) := by omega
          obtain ⟨b3, o3, rfl, hbl3, hc3⟩ := (M4.out.below (below_of_drewN hd.out)).cells (by omega)
          obtain ⟨b4, o4, rfl, hbl4, hc4⟩ := (N4.out.below (below_of_drewN hd.out)).cells (by omega)
          obtain ⟨i, hi⟩ : ∃ i : Nat, l - 1 - j = i := ⟨_, rfl⟩
          have ca := hc3 j (by rw [HLL.out]; exact hlt)
          have cb := hc4 i (by rw [HL1.out]; omega)
          have hv := HL3.out j hlt
          rw [hi] at hv
          rw [hv] at cb
          have HM := hide (meas_n0 l j hlt)
          have HDD := hide (fun q2 => (show ∃ q, wr.drewN q2 = w4.drewN q from by obtain ⟨q, rfl⟩ := hd.out; exact ⟨_, World.drewN_drewN _ _ _⟩))
          have f1 : wrap64 ((l : Int) - 1) = (l : Int) - 1 := w64_small (by omega) (by omega)
          have f2 : wrap64 ((l : Int) - 1 - (j : Int)) = (i : Int) := by rw [w64_small (by omega) (by omega)]; omega
          have f3 : IntKind.i64.wrap ((l : Int) - 1) = (l : Int) - 1 := by rw [IntKind.wrap_i64]; omega
          have f4 : IntKind.i64.wrap ((l : Int) - 1 - (j : Int)) = (i : Int) := by rw [IntKind.wrap_i64]; omega
          have hil : (i : Int) < (l : Int) := by omega
          generalize L.getD j 0 = x at *
          clear hc3 hc4 hd hv hbl3 hbl4 hi
          go_wp2_with fail
          go_quiet (fail)
          go_wp2
          go_roundw
          case rel => exact ⟨j + 1, by go_num, by omega, hide (HDD.out _)⟩
          case measure => exact HM.out
        · obtain rfl : j = l := by omega
          have hne : ¬ ((j : Int) < (j : Int)) := by omega
          have K5 := hide (KO.on K4.out (below_of_drewN hd.out))
          clear hd hlt
          go_wp2
          go_ret
          exact ⟨rfl, K5.out⟩
end Go.Proofs.Ytbpjacalnipkgaa
