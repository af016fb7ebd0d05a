import Derived.Test.YtfcoebbblfcdoaaGreatDoorZ06
import Derived.Test.YtfcoebbblfcdoaaGreatDoorZ07
import Derived.Test.YtfcoebbblfcdoaaGreatDoorZ31
import Derived.Laws.ResultCell
/- The document's Partner. -/
namespace Go.Proofs.YtfcoebbblfcdoaaGreatDoor
open Go.RowKit
set_option linter.unusedVariables false
set_option maxHeartbeats 1000000
set_option maxRecDepth 100000
theorem ptl_at {c : List Int} {k o : Nat} (h : k < c.length) : Iso.ptl o (c.drop k) = if Iso.st (c.getD k 0) then Iso.ptl (o + 1) (c.drop (k + 1)) + 1 else if c.getD k 0 = 23 then (if o = 0 then 0 else Iso.ptl (o - 1) (c.drop (k + 1)) + 1) else Iso.ptl o (c.drop (k + 1)) + 1 := by
 rw [Iso.drop_at c k h, Iso.ptl_cons]
theorem partner_any (ao : Option Addr) (n cap : Nat) (c : List Int) (i : Nat) (w : World) (h : Row .i64 w ao n cap c) (hn : n * 8 <= 140737488351232) (hi : i < n) :
  Calls Tryz.prog 52 #[.slice ao n cap, .int .i64 (i : Int)] w fun e w' => e = .returned (.int .i64 (Iso.partner c i : Int)) /\ w = w' := by
 have H := hide h
 have HL := hide h.len
 have hn2 : n <= 17592186044416 := by omega
 obtain ⟨P, hP⟩ : ∃ P, Iso.partner c i = P := ⟨_, rfl⟩
 have HP := hide (show i + 1 + Iso.ptl 0 (c.drop (i + 1)) = P from hP)
 rw [hP]
 clear h hn hP
 go_enter Tryz.func52, Tryz.ntmps52
 go_wp2
 go_loopw [5, 6] (fun s5 s6 wr => ∃ k o : Nat, s6 = .int .i64 (k : Int) /\ s5 = .int .i64 ((o : Int) + 1) /\ i < k /\ k <= n /\ o <= k /\ Hid (k + Iso.ptl o (c.drop k) = P) /\ w = wr) (fun _ s6 _ => n - (intOf s6).toNat)
 case atStart => exact ⟨i + 1, 0, by go_num, by go_num, by omega, by omega, by omega, HP, rfl⟩
 case round =>
  obtain ⟨k, o, rfl, rfl, hik, hk, hok, hp, rfl⟩ := hrel
  by_cases hlt : k < n
  ·have hkl : k < c.length := by rw [HL.out]; exact hlt
   obtain ⟨b, off, rfl, hbl, hc⟩ := H.out.cells (by omega)
   have ck : w.cell? ⟨b, off + k, none⟩ = some (.int .i64 (c.getD k 0)) := hc k hkl
   have hin : (k : Int) < (n : Int) := by omega
   have HT := hide (Starts_any (c.getD k 0) w)
   have HQ := hide (hp.out)
   rw [ptl_at hkl] at HQ
   generalize c.getD k 0 = x at *
   clear hc hkl hp
   cases hs : Iso.st x with
   | true =>
    have hx : (x == 23) = false := beq_false_of_ne (Iso.st_23 hs)
    rw [hs] at HT
    rw [if_pos hs] at HQ
    clear hs
    go_wp2_with (go_at_call 51; refine HT.out.mono ?_; rintro e w' ⟨rfl, rfl⟩)
    go_roundw
    case rel => exact ⟨k + 1, o + 1, by go_num, by go_num, by omega, by omega, by omega, hide (by have := HQ.out; omega), trivial⟩
    case measure => simp [intOf]; omega
   | false =>
    rw [hs] at HT
    rw [if_neg (by rw [hs]; decide)] at HQ
    clear hs
    by_cases hx : x = 23
    ·have hx2 : (x == 23) = true := beq_iff_eq.2 hx
     rw [if_pos hx] at HQ
     clear hx
     rcases Nat.eq_zero_or_pos o with rfl | ho
     ·rw [if_pos rfl] at HQ
      go_wp2_with (go_at_call 51; refine HT.out.mono ?_; rintro e w' ⟨rfl, rfl⟩)
      go_ret
      exact ⟨ret_int (by have := HQ.out; omega), rfl⟩
     ·obtain ⟨q, rfl⟩ : ∃ q, o = q + 1 := ⟨o - 1, by omega⟩
      rw [if_neg (by omega), Nat.add_sub_cancel] at HQ
      have h0 : ((q : Int) + 1 == 0) = false := beq_false_of_ne (by omega)
      go_wp2_with (go_at_call 51; refine HT.out.mono ?_; rintro e w' ⟨rfl, rfl⟩)
      go_roundw
      case rel => exact ⟨k + 1, q, by go_num, by go_num, by omega, by omega, by omega, hide (by have := HQ.out; omega), trivial⟩
      case measure => simp [intOf]; omega
    ·have hx2 : (x == 23) = false := beq_false_of_ne hx
     rw [if_neg hx] at HQ
     clear hx
     go_wp2_with (go_at_call 51; refine HT.out.mono ?_; rintro e w' ⟨rfl, rfl⟩)
     go_roundw
     case rel => exact ⟨k + 1, o, by go_num, by go_num, by omega, by omega, by omega, hide (by have := HQ.out; omega), trivial⟩
     case measure => simp [intOf]; omega
  ·have hne : ¬ ((k : Int) < (n : Int)) := by omega
   have HE := hide (show P = n from by
    have h1 := hp.out
    rw [List.drop_eq_nil_of_le (by rw [HL.out]; omega), Iso.ptl] at h1
    omega)
   clear hp
   go_wp2
   go_ret
   exact ⟨ret_int (by rw [HE.out]), rfl⟩
end Go.Proofs.YtfcoebbblfcdoaaGreatDoor

/- The document's Base. -/
namespace Go.Proofs.YtfcoebbblfcdoaaGreatDoor
open Go.RowKit
set_option linter.unusedVariables false
set_option maxHeartbeats 1000000
set_option maxRecDepth 100000
theorem rbase_ok (ao : Option Addr) (n cap : Nat) (c : List Int) (f t : Nat) (w : World) (h : Row .i64 w ao n cap c) (hn : n * 8 <= 140737488351232) (hf : f <= t) (ht : t <= n) :
  Calls Tryz.prog 32 #[.slice ao n cap, .int .i64 (f : Int), .int .i64 (t : Int)] w fun e w' => e = .returned (.tuple #[.int .i64 (Iso.bso 0 ((c.take t).drop f)), .int .i64 0]) /\ w = w' := by
 have hR2 := (h.take ht).drop hf
 obtain ⟨ii, hii, hy0, hy1, hy2⟩ := info_parts infoInt
 have hle := h.le
 have hsl := fun w' => run_mid Tryz.underlying30 hii cellsInt ao n cap f t hf (by omega) w'
 obtain ⟨seg, hseg⟩ : ∃ seg, (c.take t).drop f = seg := ⟨_, rfl⟩
 obtain ⟨m, hm⟩ : ∃ m, t - f = m := ⟨_, rfl⟩
 rw [hseg, hm] at hR2
 rw [hm] at hsl
 rw [hseg]
 obtain ⟨bo, hbo⟩ : ∃ bo, tl ao cap f = bo := ⟨_, rfl⟩
 obtain ⟨c2, hc2⟩ : ∃ c2, cap - f = c2 := ⟨_, rfl⟩
 rw [hbo, hc2] at hR2 hsl
 obtain ⟨R, hR⟩ : ∃ R, Iso.bso 0 seg = R := ⟨_, rfl⟩
 have HR := hide (show Iso.bso 0 (seg.drop 0) = R from hR)
 rw [hR]
 have H := hide hR2
 have HL := hide hR2.len
 have hn2 : m <= 17592186044416 := by omega
 have HPA := hide (fun (i : Nat) (hi : i < m) => partner_any bo m c2 seg i w hR2 (by omega) hi)
 have d1 : decide ((f : Int) < 0) = false := decide_eq_false (by omega)
 have d2 : decide ((n : Int) < (t : Int)) = false := decide_eq_false (by omega)
 have d3 : decide ((t : Int) < (f : Int)) = false := decide_eq_false (by omega)
 have d2n : decide (n < t) = false := decide_eq_false (by omega)
 have d3n : decide (t < f) = false := decide_eq_false (by omega)
 clear h hn hseg hR hm hbo hc2 hR2 hii hy0 hy1 hy2 hle
 go_enter Tryz.func32, Tryz.ntmps32
 go_wp2
 clear hsl
 go_loopw [9] (fun s9 wr => ∃ i : Nat, s9 = .int .i64 (i : Int) /\ i <= m /\ Hid (Iso.bso 0 (seg.drop i) = R) /\ w = wr) (fun s9 _ => m - (intOf s9).toNat)
 case atStart => exact ⟨0, rfl, Nat.zero_le _, HR, rfl⟩
 case round =>
  obtain ⟨i, rfl, hi, hb, rfl⟩ := hrel
  by_cases hlt : i < m
  ·have hil : i < seg.length := by rw [HL.out]; exact hlt
   obtain ⟨b, off, rfl, hbl, hc⟩ := H.out.cells (by omega)
   have ck : w.cell? ⟨b, off + i, none⟩ = some (.int .i64 (seg.getD i 0)) := hc i hil
   have hin : (i : Int) < (m : Int) := by omega
   have HB1 := hide (bs_one hil)
   have HB2 := hide (bs_two hil)
   have HB3 := hide (bs_next (o := 0) hil)
   have HB4 := hide (Iso.bso_init seg i hil)
   have HT := hide (Starts_any (seg.getD i 0) w)
   rw [hb.out] at HB1 HB2 HB3 HB4
   generalize seg.getD i 0 = x at *
   clear hc
   cases hs : Iso.st x with
   | true =>
    rw [hs] at HT
    have HE := hide (HB4.out hs)
    have HP := hide (HPA.out i hlt)
    have hp1 := Iso.partner_gt seg i
    have hp2 := Iso.partner_le seg i hil
    rw [HL.out] at hp2
    generalize Iso.partner seg i = q at *
    clear HB1 HB2 HB3 HB4 hs hil
    go_wp2_with (first
     | (go_at_call 51; refine HT.out.mono ?_; rintro e w' ⟨rfl, rfl⟩)
     | (go_at_call 52; refine HP.out.mono ?_; rintro e w' ⟨rfl, rfl⟩))
    go_roundw
    case rel => exact ⟨q, by go_num, by omega, hide HE.out.symm, trivial⟩
    case measure => simp [intOf]; omega
   | false =>
    rw [hs] at HT
    by_cases hx1 : x = 1
    ·have HE := hide (HB1.out hx1)
     clear HB1 HB2 HB3 HB4 hs hil
     subst hx1
     go_wp2_with (go_at_call 51; refine HT.out.mono ?_; rintro e w' ⟨rfl, rfl⟩)
     go_ret2
     exact ⟨by rw [HE.out]; rfl, rfl⟩
    ·by_cases hx2 : x = 2
     ·have HE := hide (HB2.out (.inl hx2))
      clear HB1 HB2 HB3 HB4 hs hil
      subst hx2
      go_wp2_with (go_at_call 51; refine HT.out.mono ?_; rintro e w' ⟨rfl, rfl⟩)
      go_ret2
      exact ⟨by rw [HE.out]; rfl, rfl⟩
     ·by_cases hx3 : x = 3
      ·have HE := hide (HB2.out (.inr hx3))
       clear HB1 HB2 HB3 HB4 hs hil
       subst hx3
       go_wp2_with (go_at_call 51; refine HT.out.mono ?_; rintro e w' ⟨rfl, rfl⟩)
       go_ret2
       exact ⟨by rw [HE.out]; rfl, rfl⟩
      ·have HE := hide (HB3.out fun _ => ⟨hx1, hx2, hx3⟩)
       have HF := hide (show Iso.bso 0 (seg.drop (i + 1)) = R from by rw [HE.out, nx_zero (by rw [hs]; decide)])
       have q1 : (x == 1) = false := beq_false_of_ne hx1
       have q2 : (x == 2) = false := beq_false_of_ne hx2
       have q3 : (x == 3) = false := beq_false_of_ne hx3
       clear HB1 HB2 HB3 HB4 hs hil HE hx1 hx2 hx3
       go_wp2_with (go_at_call 51; refine HT.out.mono ?_; rintro e w' ⟨rfl, rfl⟩)
       go_roundw
       case rel => exact ⟨i + 1, by go_num, by omega, HF, trivial⟩
       case measure => simp [intOf]; omega
  ·have hne : ¬ ((i : Int) < (m : Int)) := by omega
   have HE := hide (show R = 0 from by rw [<- hb.out]; exact bs_end _ _ _ (by rw [HL.out]; omega))
   clear hb
   go_wp2
   go_ret2
   exact ⟨by rw [HE.out]; rfl, rfl⟩
end Go.Proofs.YtfcoebbblfcdoaaGreatDoor

/- The document's stack (colophonref07): last, less, higher. -/
namespace Go.Proofs.YtfcoebbblfcdoaaGreatDoor
open Go.RowKit
set_option linter.unusedVariables false
set_option maxHeartbeats 1000000
set_option maxRecDepth 100000
theorem rentInfo : (Tryz.prog.info? 98).map (fun i => (i.zero, i.size, i.bytes)) = some (some (.agg #[.int .i64 0, .int .i64 0, .bool false]), 3, 24) := by kernel_rfl
theorem rentCells : Tryz.prog.cellsOf 98 = 3 := by kernel_rfl
def WA (w : World) (st : List Ex.Ent) (g n cap : Nat) : Prop := w.ownsRow 0 98 3 (.slice (some ⟨g, 0, none⟩) n cap) n (ents st)
section
variable {w : World} {st : List Ex.Ent} {g n cap : Nat}
theorem WA.lt (h : WA w st g n cap) : g < w.heap.size := (World.ownsRow.lt h g rfl).2
theorem WA.len (h : WA w st g n cap) : st.length = n := by
 have := h.1
 rw [ents_len] at this
 omega
theorem WA.caps (h : WA w st g n cap) : n <= cap /\ cap <= maxLen := by
 rcases h.2 with ⟨h0, _⟩ | ⟨g', cap', cur, hv, _, _, h1, h2, _⟩
 ·cases h0
 ·cases hv; exact ⟨h1, h2⟩
theorem WA.below (h : WA w st g n cap) {w' : World} (hb : Below w.heap.size w w') : WA w' st g n cap := owns_below h hb
theorem WA.cell (h : WA w st g n cap) {j : Nat} (hj : j < n * 3) : w.cell? ⟨g, j, none⟩ = (ents st)[j]? := World.ownsRow.cellAt h j (by omega)
theorem WA.top (h : WA w st g n cap) {m : Nat} (hm : n = m + 1) : w.cell? ⟨g, m * 3, none⟩ = some (.int .i64 (Ex.hd st).lv) /\ w.cell? ⟨g, m * 3 + 1, none⟩ = some (.int .i64 (Ex.hd st).ov) /\ w.cell? ⟨g, m * 3 + 2, none⟩ = some (.bool (Ex.hd st).is) := by
 have hl := h.len
 cases hs : st with
 | nil => rw [hs] at hl; simp at hl; omega
 | cons e r =>
  have hr : r.length = m := by rw [hs] at hl; simp at hl; omega
  have ht := ents_top e r
  rw [hr] at ht
  rw [hs] at h
  exact ⟨(h.cell (by omega)).trans ht.1, (h.cell (by omega)).trans ht.2.1, (h.cell (by omega)).trans ht.2.2⟩
theorem WA.pop (h : WA w st g n cap) {m : Nat} (hm : n = m + 1) : WA w st.tail g m cap := by
 have hl := h.len
 cases hs : st with
 | nil => rw [hs] at hl; simp at hl; omega
 | cons e r =>
  have hr : r.length = m := by rw [hs] at hl; simp at hl; omega
  subst hm
  unfold WA at h ⊢
  rw [hs, ents_cons] at h
  show w.ownsRow 0 98 3 (.slice (some ⟨g, 0, none⟩) m cap) m (ents r)
  exact ownsRow_pop (by rw [ents_len, hr]) h
theorem WA.other (h : WA w st g n cap) {p j : Nat} {v : Value} (hne : ¬ g = p) : WA (w.setCell ⟨p, j, none⟩ v) st g n cap := by
 refine ⟨h.1, ?_⟩
 rcases h.2 with ⟨h0, _⟩ | ⟨g2, cap2, cur, hv, hbs, hg, rest⟩
 ·cases h0
 ·cases hv
  refine .inr ⟨g, cap, cur, rfl, hbs, ?_, rest⟩
  rw [<- hg]
  have hne2 : ¬ p = g := fun h => hne h.symm
  unfold World.setCell
  simp [Array.getElem?_modify, hne2]
end
theorem rlast_any {w : World} {st : List Ex.Ent} {g n cap : Nat} (h : WA w st g n cap) (hn : 0 < n) (oi oe va : Int) :
  Calls Tryz.prog 56 #[.agg #[.slice (some ⟨g, 0, none⟩) n cap, .int .i64 oi, .int .i64 oe, .int .i64 va]] w fun e w' => e = .returned (.agg #[.int .i64 (Ex.hd st).lv, .int .i64 (Ex.hd st).ov, .bool (Ex.hd st).is]) /\ Below w.heap.size w w' := by
 obtain ⟨m, rfl⟩ : ∃ m, n = m + 1 := ⟨n - 1, by omega⟩
 obtain ⟨t0, t1, t2⟩ := h.top rfl
 have hlt := h.lt
 have hc := h.caps
 unfold maxLen at hc
 have ei : ((m + 1 : Nat) : Int) - 1 = (m : Int) := by omega
 have hmm : (m : Int) < ((m + 1 : Nat) : Int) := by omega
 generalize (Ex.hd st).lv = lv at *
 generalize (Ex.hd st).ov = ov at *
 generalize (Ex.hd st).is = is at *
 have ng : ¬ g = w.heap.size := by omega
 have ng2 : ¬ g = w.heap.size + 1 := by omega
 clear h hn
 go_enter Tryz.func56, Tryz.ntmps56
 go_wp2
 refine bodyPost_ret (v := .agg #[.int .i64 lv, .int .i64 ov, .bool is]) (by simp [results, Tryz.results56, go_sem]) rfl ⟨rfl, ?_⟩
 exact (Below.alloc (Below.alloc (Below.refl _ _) (Nat.le_refl _) _) (by simp) _)
theorem rless_any {w : World} {st : List Ex.Ent} {g n cap : Nat} (h : WA w st g n cap) {m : Nat} (hm : n = m + 1) (oi oe va : Int) :
  Calls Tryz.prog 87 #[.agg #[.slice (some ⟨g, 0, none⟩) n cap, .int .i64 oi, .int .i64 oe, .int .i64 va]] w fun e w' => e = .returned (.agg #[.slice (some ⟨g, 0, none⟩) m cap, .int .i64 oi, .int .i64 oe, .int .i64 va]) /\ Below w.heap.size w w' := by
 subst hm
 have hc := h.caps
 unfold maxLen at hc
 have ei : ((m + 1 : Nat) : Int) - 1 = (m : Int) := by omega
 obtain ⟨ii, hii, hy0, hy1, hy2⟩ := info_parts rentInfo
 have hsl := fun w' => run_upto3 Tryz.underlying92 hii rentCells (some ⟨g, 0, none⟩) (m + 1) cap m (by omega) w'
 clear h hy0 hy1 hy2
 go_enter Tryz.func87, Tryz.ntmps87
 go_wp2
 refine bodyPost_ret (v := .agg #[.slice (some ⟨g, 0, none⟩) m cap, .int .i64 oi, .int .i64 oe, .int .i64 va]) (by simp [results, Tryz.results87, go_sem]) rfl ⟨rfl, ?_⟩
 exact (Below.alloc (Below.alloc (Below.refl _ _) (Nat.le_refl _) _) (by simp) _)
theorem rhigher_any (l : Int) (o : Bool) (w : World) (h0 : 0 <= l) (h1 : l <= 125) :
  Calls Tryz.prog 117 #[.int .i64 l, .bool o] w fun e w' => e = .returned (.int .i64 (Ex.nl l o)) /\ w = w' := by
 obtain ⟨N, hN⟩ : ∃ N, Ex.nl l o = N := ⟨_, rfl⟩
 have HN := hide (show (N = l + 1 /\ ((l + 1) % 2 == 1) = o) \/ (N = l + 2 /\ ((l + 1) % 2 == 1) = !o) from by
  rw [<- hN]
  unfold Ex.nl
  cases o with
  | true =>
   by_cases hp : (l + 1) % 2 = 1
   ·left; simp [hp]
   ·right; simp [hp]
  | false =>
   by_cases hp : (l + 1) % 2 = 0
   ·left; simp [hp]
   ·have hp2 : (l + 1) % 2 = 1 := by omega
    right; simp [hp2])
 rw [hN]
 clear hN
 rcases HN.out with ⟨rfl, he⟩ | ⟨rfl, he⟩
 ·clear HN
  have he2 : (((l + 1) % 2 == 1) == o) = true := by simp [he]
  go_enter Tryz.func117, Tryz.ntmps117
  go_wp2_with fail
  go_loopw [5] (fun s5 wr => s5 = .int .i64 (l + 1) /\ w = wr) (fun _ _ => 0)
  case atStart => exact ⟨rfl, rfl⟩
  case round =>
   obtain ⟨rfl, rfl⟩ := hrel
   go_wp2
   go_ret
   exact ⟨rfl, rfl⟩
 ·clear HN
  have he2 : (((l + 1) % 2 == 1) == o) = false := by cases o <;> simp_all
  have he3 : (((l + 1 + 1) % 2 == 1) == o) = true := by
   have hp : ((l + 1 + 1) % 2 == 1) = !((l + 1) % 2 == 1) := by
    by_cases hq : (l + 1) % 2 = 1
    ·have : ¬ (l + 1 + 1) % 2 = 1 := by omega
     simp [hq, this]
    ·have : (l + 1 + 1) % 2 = 1 := by omega
     simp [hq, this]
   rw [hp, he]; simp
  have e12 : l + 2 = l + 1 + 1 := by omega
  rw [e12]
  clear he e12
  go_enter Tryz.func117, Tryz.ntmps117
  go_wp2_with fail
  go_loopw [5] (fun s5 wr => (s5 = .int .i64 (l + 1) \/ s5 = .int .i64 (l + 1 + 1)) /\ w = wr) (fun s5 _ => (l + 2 - intOf s5).toNat)
  case atStart => exact ⟨.inl rfl, rfl⟩
  case round =>
   obtain ⟨rfl | rfl, rfl⟩ := hrel
   ·go_wp2
    go_roundw
    case rel => exact ⟨.inr (by go_num), trivial⟩
    case measure => simp [intOf]; omega
   ·go_wp2
    go_ret
    exact ⟨rfl, rfl⟩
end Go.Proofs.YtfcoebbblfcdoaaGreatDoor

/- The document's stack: add, odd. -/
namespace Go.Proofs.YtfcoebbblfcdoaaGreatDoor
open Go.RowKit
set_option linter.unusedVariables false
set_option maxHeartbeats 1000000
set_option maxRecDepth 100000
def wc4 (g n cap : Nat) (oi oe va : Int) : Array Value := #[.slice (some ⟨g, 0, none⟩) n cap, .int .i64 oi, .int .i64 oe, .int .i64 va]
structure WB (w W : World) (p q : Nat) (g n cap : Nat) (oi oe va : Int) : Prop where
 hp : W.heap[p]? = some (.cells (wc4 g n cap oi oe va) 94 (0, 0))
 hq : W.heap[q]? = some (.cells #[.slice none 0 0, .int .i64 0, .int .i64 0, .int .i64 0] 94 (0, 0))
 ne : ¬ p = q
 le : w.heap.size <= p /\ w.heap.size <= q
 bel : Below w.heap.size w W
section
variable {w W : World} {p q g n cap : Nat} {oi oe va : Int}
theorem WB.begin (w : World) (g n cap : Nat) (oi oe va : Int) : WB w ((w.alloc (.cells #[.slice (some ⟨g, 0, none⟩) n cap, .int .i64 oi, .int .i64 oe, .int .i64 va] 94)).alloc (.cells #[.slice none 0 0, .int .i64 0, .int .i64 0, .int .i64 0] 94)) w.heap.size (w.heap.size + 1) g n cap oi oe va :=
 ⟨heap_alloc2_old w _ _, heap_alloc2_new w _ _, by omega, by omega, Below.alloc (Below.alloc (Below.refl _ _) (Nat.le_refl _) _) (by simp) _⟩
theorem WB.lt (h : WB w W p q g n cap oi oe va) : p < W.heap.size /\ q < W.heap.size := ⟨(Array.getElem?_eq_some_iff.1 h.hp).1, (Array.getElem?_eq_some_iff.1 h.hq).1⟩
theorem WB.below (h : WB w W p q g n cap oi oe va) {W' : World} (hb : Below W.heap.size W W') : WB w W' p q g n cap oi oe va :=
 ⟨(hb.block p h.lt.1).trans h.hp, (hb.block q h.lt.2).trans h.hq, h.ne, h.le, KO.on h.bel hb⟩
theorem WB.c (h : WB w W p q g n cap oi oe va) : W.cell? ⟨p, 0, none⟩ = some (.slice (some ⟨g, 0, none⟩) n cap) /\ W.cell? ⟨p, 1, none⟩ = some (.int .i64 oi) /\ W.cell? ⟨p, 2, none⟩ = some (.int .i64 oe) /\ W.cell? ⟨p, 3, none⟩ = some (.int .i64 va) := by
 refine ⟨?_, ?_, ?_, ?_⟩ <;> simp [World.cell?, h.hp, wc4]
theorem WB.f (h : WB w W p q g n cap oi oe va) (j : Nat) : W.frozen? ⟨p, j, none⟩ = false := by simp [World.frozen?, h.hp]
theorem WB.qc (h : WB w W p q g n cap oi oe va) : W.cell? ⟨q, 0, none⟩ = some (.slice none 0 0) /\ W.cell? ⟨q, 1, none⟩ = some (.int .i64 0) /\ W.cell? ⟨q, 2, none⟩ = some (.int .i64 0) /\ W.cell? ⟨q, 3, none⟩ = some (.int .i64 0) := by
 refine ⟨?_, ?_, ?_, ?_⟩ <;> simp [World.cell?, h.hq]
theorem WB.qf (h : WB w W p q g n cap oi oe va) (j : Nat) : W.frozen? ⟨q, j, none⟩ = false := by simp [World.frozen?, h.hq]
theorem set_heap {W : World} {p j : Nat} {cs : Array Value} {t : TypeId} (h : W.heap[p]? = some (.cells cs t (0, 0))) (v : Value) : (W.setCell ⟨p, j, none⟩ v).heap[p]? = some (.cells (cs.setIfInBounds j v) t (0, 0)) := by
 rw [setCell_eq_setRow W p j _ _ _ v h]
 exact setRow_heap W p _ _ _ _ h
theorem set_heap_other {W : World} {p q j : Nat} {o : Option Obj} (h : W.heap[q]? = o) (hne : ¬ p = q) (v : Value) : (W.setCell ⟨p, j, none⟩ v).heap[q]? = o := by
 rw [<- h]
 unfold World.setCell
 simp [Array.getElem?_modify, hne]
theorem WB.setSl (h : WB w W p q g n cap oi oe va) (g' n' cap' : Nat) : WB w (W.setCell ⟨p, 0, none⟩ (.slice (some ⟨g', 0, none⟩) n' cap')) p q g' n' cap' oi oe va :=
 ⟨set_heap h.hp _, set_heap_other h.hq h.ne _, h.ne, h.le, h.bel.setCell (p := ⟨p, 0, none⟩) h.le.1 _⟩
theorem WB.setOi (h : WB w W p q g n cap oi oe va) (z : Int) : WB w (W.setCell ⟨p, 1, none⟩ (.int .i64 z)) p q g n cap z oe va :=
 ⟨set_heap h.hp _, set_heap_other h.hq h.ne _, h.ne, h.le, h.bel.setCell (p := ⟨p, 1, none⟩) h.le.1 _⟩
theorem WB.setOe (h : WB w W p q g n cap oi oe va) (z : Int) : WB w (W.setCell ⟨p, 2, none⟩ (.int .i64 z)) p q g n cap oi z va :=
 ⟨set_heap h.hp _, set_heap_other h.hq h.ne _, h.ne, h.le, h.bel.setCell (p := ⟨p, 2, none⟩) h.le.1 _⟩
theorem WB.setVa (h : WB w W p q g n cap oi oe va) (z : Int) : WB w (W.setCell ⟨p, 3, none⟩ (.int .i64 z)) p q g n cap oi oe z :=
 ⟨set_heap h.hp _, set_heap_other h.hq h.ne _, h.ne, h.le, h.bel.setCell (p := ⟨p, 3, none⟩) h.le.1 _⟩
def set4 (W : World) (p g n cap : Nat) (oi oe va : Int) : World := (((W.setCell ⟨p, 0, none⟩ (.slice (some ⟨g, 0, none⟩) n cap)).setCell ⟨p, 1, none⟩ (.int .i64 oi)).setCell ⟨p, 2, none⟩ (.int .i64 oe)).setCell ⟨p, 3, none⟩ (.int .i64 va)
theorem WB.set4 (h : WB w W p q g n cap oi oe va) (g' n' cap' : Nat) (a b c : Int) : WB w (set4 W p g' n' cap' a b c) p q g' n' cap' a b c := (((h.setSl g' n' cap').setOi a).setOe b).setVa c
theorem WB.out (h : WB w W p q g n cap oi oe va) (g' n' cap' : Nat) (a b c : Int) : (Go.Proofs.YtfcoebbblfcdoaaGreatDoor.set4 W q g' n' cap' a b c).heap[q]? = some (.cells (wc4 g' n' cap' a b c) 94 (0, 0)) /\ Below w.heap.size w (Go.Proofs.YtfcoebbblfcdoaaGreatDoor.set4 W q g' n' cap' a b c) :=
 ⟨set_heap (set_heap (set_heap (set_heap h.hq _) _) _) _, (((h.bel.setCell (p := ⟨q, 0, none⟩) h.le.2 _).setCell (p := ⟨q, 1, none⟩) h.le.2 _).setCell (p := ⟨q, 2, none⟩) h.le.2 _).setCell (p := ⟨q, 3, none⟩) h.le.2 _⟩
end
theorem WA.set4 {W : World} {st : List Ex.Ent} {g n cap p : Nat} (h : WA W st g n cap) (hne : ¬ g = p) (g' n' cap' : Nat) (a b c : Int) : WA (set4 W p g' n' cap' a b c) st g n cap := (((h.other hne).other hne).other hne).other hne
theorem WA.notWay {W : World} {st : List Ex.Ent} {g n cap p : Nat} {cs : Array Value} (h : WA W st g n cap) (hp : W.heap[p]? = some (.cells cs 94 (0, 0))) : ¬ g = p := by
 rintro rfl
 rcases h.2 with ⟨h0, _⟩ | ⟨g2, cap2, cur, hv2, hbs, hg2, rest⟩
 ·cases h0
 ·cases hv2
  rw [hp] at hg2
  simp at hg2
theorem owns_empty3 (w : World) (e : TypeId) (b : Nat) (hb : w.heap.size = b) : (w.alloc (.cells #[] e)).ownsRow b e 3 (.slice (some ⟨b, 0, none⟩) 0 0) 0 [] := by
 subst hb
 exact World.ownsRow_made w #[] 0 (Nat.le_refl _) (Nat.zero_le _) rfl
theorem rbuild_ent (l o : Int) (i : Bool) (w : World) : (Instr.build 98 #[(0, .int .i64 l), (1, .int .i64 o), (2, .bool i)]).run Tryz.prog w = .ok (.agg #[.int .i64 l, .int .i64 o, .bool i]) w := run_build w 98 _ _ (by kernel_rfl)
theorem rbuild_ent1 (x y : Int) (z : Bool) (w : World) : (Instr.buildSlice 92 1 #[(0, .agg #[.int .i64 x, .int .i64 y, .bool z])]).run Tryz.prog w = .ok (.slice (some ⟨w.heap.size, 0, none⟩) 1 1) (w.alloc (.cells #[.int .i64 x, .int .i64 y, .bool z] 98)) := by
 have hq := rentInfo
 cases hi : Tryz.prog.info? 98 with
 | none => rw [hi] at hq; cases hq
 | some ie =>
  rw [hi] at hq
  simp only [Option.map_some, Option.some.injEq, Prod.mk.injEq] at hq
  refine run_buildSlice w 92 98 1 _ _ ie _ Tryz.underlying92 hi hq.1 (by rw [hq.2.1]; decide) (by rw [hq.2.1]; decide) ?_
  rw [hq.2.1]
  kernel_rfl
theorem rfield_lv (a b : Int) (c : Bool) (w : World) : (Instr.field 98 (.agg #[.int .i64 a, .int .i64 b, .bool c]) 0).run Tryz.prog w = .ok (.int .i64 a) w := by kernel_rfl
theorem rfield_ov (a b : Int) (c : Bool) (w : World) : (Instr.field 98 (.agg #[.int .i64 a, .int .i64 b, .bool c]) 1).run Tryz.prog w = .ok (.int .i64 b) w := by kernel_rfl
theorem rfield_is (a b : Int) (c : Bool) (w : World) : (Instr.field 98 (.agg #[.int .i64 a, .int .i64 b, .bool c]) 2).run Tryz.prog w = .ok (.bool c) w := by kernel_rfl
theorem wayInfo : (Tryz.prog.info? 94).map (·.size) = some 4 := by kernel_rfl
theorem results2 {fn : Func} {p u : Tmp} {ty : TypeId} (h : fn.results = #[.cell p ty, .tmp u]) (tmps : Array Value) (P : Program) (w : World) (g : Nat) (v x : Value) (hp : tmps.getD p undef = .pointer (some ⟨g, 0, none⟩)) (hu : tmps.getD u undef = x) (hl : (loadVar ty ⟨g, 0, none⟩).run P w = .ok v w) : (results fn tmps).run P w = .ok (.tuple #[v, x]) w := by
 rw [results_cell_tmp h, hp, hu]
 simp only [asAddr, Sem.run_pure, Result.andThen_ok, hl]
theorem results1 {fn : Func} {p : Tmp} {ty : TypeId} (h : fn.results = #[.cell p ty]) (tmps : Array Value) (P : Program) (w : World) (g : Nat) (v : Value) (hp : tmps.getD p undef = .pointer (some ⟨g, 0, none⟩)) (hl : (loadVar ty ⟨g, 0, none⟩).run P w = .ok v w) : (results fn tmps).run P w = .ok v w := by
 have hp' : tmps[p]?.getD undef = .pointer (some ⟨g, 0, none⟩) := by simpa using hp
 simp [results, h, hp', asAddr, hl]
theorem way_out {w W : World} {p q g n cap : Nat} {oi oe va : Int} (h : WB w W p q g n cap oi oe va) (g' n' cap' : Nat) (a b c : Int) : (loadVar 94 ⟨q, 0, none⟩).run Tryz.prog ((((W.setCell ⟨q, 0, none⟩ (.slice (some ⟨g', 0, none⟩) n' cap')).setCell ⟨q, 1, none⟩ (.int .i64 a)).setCell ⟨q, 2, none⟩ (.int .i64 b)).setCell ⟨q, 3, none⟩ (.int .i64 c)) = .ok (.agg #[.slice (some ⟨g', 0, none⟩) n' cap', .int .i64 a, .int .i64 b, .int .i64 c]) ((((W.setCell ⟨q, 0, none⟩ (.slice (some ⟨g', 0, none⟩) n' cap')).setCell ⟨q, 1, none⟩ (.int .i64 a)).setCell ⟨q, 2, none⟩ (.int .i64 b)).setCell ⟨q, 3, none⟩ (.int .i64 c)) :=
 run_loadVar_row (P := Tryz.prog) _ q 94 94 _ (0, 0) _ (h.out g' n' cap' a b c).1 Tryz.underlying94 rfl wayInfo
theorem way_bel {w W : World} {p q g n cap : Nat} {oi oe va : Int} (h : WB w W p q g n cap oi oe va) (g' n' cap' : Nat) (a b c : Int) : Below w.heap.size w ((((W.setCell ⟨q, 0, none⟩ (.slice (some ⟨g', 0, none⟩) n' cap')).setCell ⟨q, 1, none⟩ (.int .i64 a)).setCell ⟨q, 2, none⟩ (.int .i64 b)).setCell ⟨q, 3, none⟩ (.int .i64 c)) := (h.out g' n' cap' a b c).2
theorem WB.set4' {w W : World} {p q g n cap : Nat} {oi oe va : Int} (h : WB w W p q g n cap oi oe va) (g' n' cap' : Nat) (a b c : Int) : WB w ((((W.setCell ⟨p, 0, none⟩ (.slice (some ⟨g', 0, none⟩) n' cap')).setCell ⟨p, 1, none⟩ (.int .i64 a)).setCell ⟨p, 2, none⟩ (.int .i64 b)).setCell ⟨p, 3, none⟩ (.int .i64 c)) p q g' n' cap' a b c := h.set4 g' n' cap' a b c
theorem WA.set4' {W : World} {st : List Ex.Ent} {g n cap p : Nat} (h : WA W st g n cap) (hne : ¬ g = p) (g' n' cap' : Nat) (a b c : Int) : WA ((((W.setCell ⟨p, 0, none⟩ (.slice (some ⟨g', 0, none⟩) n' cap')).setCell ⟨p, 1, none⟩ (.int .i64 a)).setCell ⟨p, 2, none⟩ (.int .i64 b)).setCell ⟨p, 3, none⟩ (.int .i64 c)) st g n cap := h.set4 hne g' n' cap' a b c
theorem radd_no {w : World} {st : List Ex.Ent} {g n cap : Nat} (h : WA w st g n cap) (hn : 0 < n) (oi oe va : Nat) (o : Bool) (ov : Int) (is : Bool) (h0 : 0 <= (Ex.hd st).lv) (h1 : (Ex.hd st).lv <= 125) (hc : Ex.can ⟨st, oi, oe, va⟩ o = false) :
  Calls Tryz.prog 85 #[.agg #[.slice (some ⟨g, 0, none⟩) n cap, .int .i64 (oi : Int), .int .i64 (oe : Int), .int .i64 (va : Int)], .bool o, .int .i64 ov, .bool is] w fun e w' => e = .returned (.tuple #[.agg #[.slice (some ⟨g, 0, none⟩) n cap, .int .i64 (oi : Int), .int .i64 (oe : Int), .int .i64 (va : Int)], .bool false]) /\ Below w.heap.size w w' := by
 have HB := hide (WB.begin w g n cap oi oe va)
 have HL := hide (rlast_any (h.below ((Below.alloc (Below.alloc (Below.refl _ w) (Nat.le_refl _) (.cells #[.slice (some ⟨g, 0, none⟩) n cap, .int .i64 (oi : Int), .int .i64 (oe : Int), .int .i64 (va : Int)] 94)) (by simp) (.cells #[.slice none 0 0, .int .i64 0, .int .i64 0, .int .i64 0] 94)))) hn oi oe va)
 have HH := hide (fun w' => rhigher_any (Ex.hd st).lv o w' h0 h1)
 have hfl := rfield_lv
 have HC : Hid (125 < Ex.nl (Ex.hd st).lv o \/ (¬ 125 < Ex.nl (Ex.hd st).lv o /\ 0 < oi) \/ (¬ 125 < Ex.nl (Ex.hd st).lv o /\ ¬ 0 < oi /\ 0 < oe)) := by
  by_cases c1 : 125 < Ex.nl (Ex.hd st).lv o
  ·exact .inl c1
  ·by_cases c2 : 0 < oi
   ·exact .inr (.inl ⟨c1, c2⟩)
   ·by_cases c3 : 0 < oe
    ·exact .inr (.inr ⟨c1, c2, c3⟩)
    ·rw [Ex.can_mk (by simp only; omega) (by simp only; omega) (by simp only; omega)] at hc
     cases hc
 generalize Ex.nl (Ex.hd st).lv o = l at *
 generalize (Ex.hd st).lv = lv at *
 generalize (Ex.hd st).ov = ov2 at *
 generalize (Ex.hd st).is = is2 at *
 clear hc h
 rcases HC.out with c1 | ⟨c1, c2⟩ | ⟨c1, c2, c3⟩
 all_goals
  first
   | have i1 : (0 : Int) < (oi : Int) := by omega
   | have i1 : ¬ (0 : Int) < (oi : Int) := by omega
   | skip
  first
   | have i2 : (0 : Int) < (oe : Int) := by omega
   | skip
  clear HC
  go_enter Tryz.func85, Tryz.ntmps85
  go_wp2_with fail
  refine HL.out.mono ?_
  rintro e w3 ⟨rfl, hb3⟩
  have hB := HB.out.below hb3
  obtain ⟨p0, p1, p2, p3⟩ := hB.c
  obtain ⟨q0, q1, q2, q3⟩ := hB.qc
  have f0 := hB.qf 0
  have f1 := hB.qf 1
  have f2 := hB.qf 2
  have f3 := hB.qf 3
  have HO1 := hide (way_out hB g n cap oi oe va)
  have HO2 := hide (way_bel hB g n cap oi oe va)
  clear hb3 HL hB
  go_wp2_with (go_at_call 117; refine (HH.out _).mono ?_; rintro e w4 ⟨rfl, rfl⟩)
  exact bodyPost_ret (results2 Tryz.results85 _ _ _ (w.heap.size + 1) _ (.bool false) rfl rfl HO1.out) rfl ⟨rfl, HO2.out⟩
theorem radd_yes {w : World} {st : List Ex.Ent} {g n cap : Nat} (h : WA w st g n cap) (hn : 0 < n) (hn2 : n <= 200) (va : Int) (o : Bool) (ov : Int) (is : Bool) (h0 : 0 <= (Ex.hd st).lv) (h1 : (Ex.hd st).lv <= 125) (hc : Ex.nl (Ex.hd st).lv o <= 125) :
  Calls Tryz.prog 85 #[.agg #[.slice (some ⟨g, 0, none⟩) n cap, .int .i64 0, .int .i64 0, .int .i64 va], .bool o, .int .i64 ov, .bool is] w fun e w' => ∃ g' cap', e = .returned (.tuple #[.agg #[.slice (some ⟨g', 0, none⟩) (n + 1) cap', .int .i64 0, .int .i64 0, .int .i64 va], .bool true]) /\ WA w' (⟨Ex.nl (Ex.hd st).lv o, ov, is⟩ :: st) g' (n + 1) cap' /\ Below w.heap.size w w' := by
 have HB := hide (WB.begin w g n cap 0 0 va)
 have hw2 := h.below ((Below.alloc (Below.alloc (Below.refl _ w) (Nat.le_refl _) (.cells #[.slice (some ⟨g, 0, none⟩) n cap, .int .i64 0, .int .i64 0, .int .i64 va] 94)) (by simp) (.cells #[.slice none 0 0, .int .i64 0, .int .i64 0, .int .i64 0] 94)))
 have HL := hide (rlast_any hw2 hn 0 0 va)
 have HW2 := hide hw2
 have HH := hide (fun w' => rhigher_any (Ex.hd st).lv o w' h0 h1)
 have hfl := rfield_lv
 have hbe := rbuild_ent
 have hbo := rbuild_ent1
 obtain ⟨ii, hii, hy0, hy1, hy2⟩ := info_parts rentInfo
 have HII := hide hii
 have HY0 := hide hy0
 have HY1 := hide hy1
 have HY2 := hide hy2
 have c1 : ¬ 125 < Ex.nl (Ex.hd st).lv o := by omega
 generalize Ex.nl (Ex.hd st).lv o = l at *
 generalize (Ex.hd st).lv = lv at *
 generalize (Ex.hd st).ov = ov2 at *
 generalize (Ex.hd st).is = is2 at *
 clear hc h hw2 hii hy0 hy1 hy2
 go_enter Tryz.func85, Tryz.ntmps85
 go_wp2_with fail
 refine HL.out.mono ?_
 rintro e w3 ⟨rfl, hb3⟩
 have hB := HB.out.below hb3
 have hA := HW2.out.below hb3
 have HA := hide hA
 have HBB := hide hB
 obtain ⟨p0, p1, p2, p3⟩ := hB.c
 have hka : Below w3.heap.size w3 (w3.alloc (.cells #[] 98)) := Below.alloc (Below.refl _ _) (Nat.le_refl _) _
 have p0a : ∀ ob : Obj, (w3.alloc ob).cell? ⟨w.heap.size, 0, none⟩ = some (.slice (some ⟨g, 0, none⟩) n cap) := fun ob => (hB.below (Below.alloc (Below.refl _ _) (Nat.le_refl _) ob)).c.1
 have HSRC := hide (show ∀ j u, (ents st)[j]? = some u -> (w3.alloc (.cells #[] 98)).cell? ((⟨g, 0, none⟩ : Addr).add j) = some u from by
  intro j u hj
  have hjl : j < n * 3 := by
   have := (List.getElem?_eq_some_iff.1 hj).1
   rw [ents_len, hA.len] at this
   exact this
  have hadd : (⟨g, 0, none⟩ : Addr).add j = ⟨g, j, none⟩ := by unfold Addr.add; split <;> simp_all
  rw [hadd, (hA.below hka).cell hjl, hj])
 have HEL := hide (show (ents st).length = n * 3 from by rw [ents_len, hA.len])
 clear hb3 HL hB hA HB HW2 hka
 go_wp2_with (first
  | (go_at_call 117; refine (HH.out _).mono ?_; rintro e w4 ⟨rfl, rfl⟩)
  | (at_builtin; refine wpList_append_own _ rfl (.tmp 29) (.tmp 31) 92 rfl w3.heap.size 98 ii _ 3 24 Tryz.underlying92 HII.out HY0.out HY1.out HY2.out rfl (by decide) (.slice (some ⟨w3.heap.size, 0, none⟩) 0 0) 0 [] rfl (owns_empty3 w3 98 w3.heap.size rfl) ⟨g, 0, none⟩ n cap (ents st) rfl HEL.out HSRC.out (ents_one st) (by unfold maxLen; omega) (by omega) (by simp) ?_; intro v5 w5 ho5 hg5 hn5; rw [Nat.zero_add, List.nil_append] at ho5; have k5 : Below w3.heap.size w3 w5 := (Below.alloc (Below.refl _ w3) (Nat.le_refl _) _).grown hg5 (by simp) (fun j hj => by simp [Value.ownBlock] at hj; omega); have z5 : w3.heap.size <= w5.heap.size := k5.size; obtain ⟨g5, c5, rfl, y5, _⟩ := owns_pos ho5 hn)
  | (at_builtin; refine wpList_append_ent w5 rfl (.tmp 32) (.tmp 37) 92 rfl w3.heap.size 98 ii _ Tryz.underlying92 HII.out HY0.out HY1.out HY2.out rfl (.slice (some ⟨g5, 0, none⟩) n c5) n _ rfl ⟨l, ov, is⟩ ho5 _ rfl rfl (by omega) z5 ?_; intro v6 w6 ho6 hg6; have k6 : Below w3.heap.size w3 w6 := (Below.alloc k5 z5 _).grown hg6 (by simp; omega) (fun j hj => by simp [Value.ownBlock] at hj; omega); obtain ⟨g6, c6, rfl, y6, _⟩ := owns_pos ho6 (by omega); have hB6 := HBB.out.below k6; obtain ⟨r0, r1, r2, r3⟩ := hB6.c; have rf0 := hB6.f 0; have hB7 := hB6.setSl g6 (n + 1) c6; obtain ⟨s0, s1, s2, s3⟩ := hB7.c; obtain ⟨q0, q1, q2, q3⟩ := hB7.qc; have f0 := hB7.qf 0; have f1 := hB7.qf 1; have f2 := hB7.qf 2; have f3 := hB7.qf 3))
 have hA6 : WA w6 (⟨l, ov, is⟩ :: st) g6 (n + 1) c6 := by unfold WA; rw [ents_cons]; exact owns_mono ho6 (Nat.zero_le _)
 have hlt := HBB.out.lt
 have np : ¬ g6 = w.heap.size := by omega
 have nq : ¬ g6 = w.heap.size + 1 := by omega
 exact bodyPost_ret (results2 Tryz.results85 _ _ _ (w.heap.size + 1) _ (.bool true) rfl rfl (way_out hB7 g6 (n + 1) c6 0 0 va)) rfl ⟨g6, c6, rfl, (hA6.other np).set4' nq g6 (n + 1) c6 0 0 va, way_bel hB7 g6 (n + 1) c6 0 0 va⟩
theorem rodd_any (ao : Option Addr) (n cap : Nat) (c : List Int) (i : Nat) (w : World) (h : Row .i64 w ao n cap c) (hn : n <= 300) (hi : i < n) :
  Calls Tryz.prog 86 #[.slice ao n cap, .int .i64 (i : Int)] w fun e w' => e = .returned (.bool (Ex.wo (c.getD i 0) (c.drop (i + 1)))) /\ w = w' := by
 have hp1 := Iso.partner_gt c i
 have hp2 := Iso.partner_le c i (by rw [h.len]; exact hi)
 rw [h.len] at hp2
 have HP := hide (partner_any ao n cap c i w h (by omega) hi)
 have HB := hide (rbase_ok ao n cap c (i + 1) (Iso.partner c i) w h (by omega) (by omega) hp2)
 rw [Ex.base_fs] at HB
 have e1 : ((i + 1 : Nat) : Int) = (i : Int) + 1 := by omega
 rw [e1] at HB
 obtain ⟨b, off, rfl, hbl, hc⟩ := h.cells (by omega)
 have ck : w.cell? ⟨b, off + i, none⟩ = some (.int .i64 (c.getD i 0)) := hc i (by rw [h.len]; exact hi)
 have hin : (i : Int) < (n : Int) := by omega
 have hwo : Ex.wo (c.getD i 0) (c.drop (i + 1)) = if c.getD i 0 = 22 then Ex.fs 0 (c.drop (i + 1)) == 1 else c.getD i 0 == 21 := rfl
 rw [hwo]
 generalize Ex.fs 0 (c.drop (i + 1)) = F at *
 generalize Iso.partner c i = q at *
 generalize c.getD i 0 = x at *
 clear hc h hwo e1
 by_cases hx : x = 22
 ·subst hx
  go_enter Tryz.func86, Tryz.ntmps86
  go_wp2_with (first
   | (go_at_call 52; refine HP.out.mono ?_; rintro e w2 ⟨rfl, rfl⟩)
   | (go_at_call 32; refine HB.out.mono ?_; rintro e w2 ⟨rfl, rfl⟩))
  go_ret
  exact ⟨rfl, rfl⟩
 ·have hx2 : (x == 22) = false := beq_false_of_ne hx
  rw [if_neg hx]
  go_enter Tryz.func86, Tryz.ntmps86
  go_wp2
  go_ret
  exact ⟨rfl, rfl⟩
end Go.Proofs.YtfcoebbblfcdoaaGreatDoor
