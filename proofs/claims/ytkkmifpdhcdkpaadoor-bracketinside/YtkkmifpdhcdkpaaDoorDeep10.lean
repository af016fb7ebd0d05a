/- BracketDeep: its walk. -/
import Derived.Test.YtkkmifpdhcdkpaaDoorBl
import Derived.Test.YtkkmifpdhcdkpaaDoorDm
import Derived.Test.YtkkmifpdhcdkpaaDoorNest10
namespace Go.Proofs.YtkkmifpdhcdkpaaDoor
open Go.RowKit
set_option linter.unusedVariables false
set_option maxHeartbeats 1000000
set_option maxRecDepth 100000
namespace Br
def ops4 : List Int := [40, 91, 9001, 12296]
def cls4 : List Int := [41, 93, 12297, 9002]
theorem ops_ok (k : Nat) (h : k < 4) : (Ucd.side (ops4.getD k 0)).1 = 1 ∧ (Ucd.side (cls4.getD k 0)).1 = 2 ∧ Ucd.canon (Ucd.side (ops4.getD k 0)).2 = Ucd.canon (cls4.getD k 0) ∧ (Lit.int .i32 (ops4.getD k 0)).wf = true ∧ (Lit.int .i32 (cls4.getD k 0)).wf = true := by
  have h4 : k = 0 ∨ k = 1 ∨ k = 2 ∨ k = 3 := by omega
  rcases h4 with rfl | rfl | rfl | rfl <;> decide +kernel
def dl (n : Nat) (o c : Int) : List Int := List.replicate n o ++ List.replicate n c
def dt (n : Nat) : List Int := List.replicate n 14 ++ List.replicate n 14
theorem dl_lo {n i : Nat} {o c : Int} (h : i < n) : (dl n o c).getD i 0 = o := by simp [dl, List.getD, List.getElem?_append, h]
theorem dl_hi {n i : Nat} {o c : Int} (h1 : n ≤ i) (h2 : i < 2 * n) : (dl n o c).getD i 0 = c := by
  have q1 : ¬ i < n := by omega
  have q2 : i - n < n := by omega
  simp [dl, List.getD, List.getElem?_append, q1, q2]
theorem dt_at {n i : Nat} (h : i < 2 * n) : (dt n).getD i 0 = 14 := by
  by_cases h1 : i < n
  · exact dl_lo (o := 14) (c := 14) h1
  · exact dl_hi (o := 14) (c := 14) (by omega) h
theorem dl_len (n : Nat) (o c : Int) : (dl n o c).length = 2 * n := by simp [dl]; omega
section
variable {n k : Nat} (h : k < 4)
include h
theorem d1 : ∀ i, i < n → kd (dl n (ops4.getD k 0) (cls4.getD k 0)) (dt n) i = 1 := fun i hi => by
  rw [kd_on (dt_at (by omega)), dl_lo hi]; exact (ops_ok k h).1
theorem d2 : ∀ i, n ≤ i → i < 2 * n → kd (dl n (ops4.getD k 0) (cls4.getD k 0)) (dt n) i = 2 := fun i hi h2 => by
  rw [kd_on (dt_at h2), dl_hi hi h2]; exact (ops_ok k h).2.1
theorem d3 : ∀ x i, x < n → n ≤ i → i < 2 * n → mt (dl n (ops4.getD k 0) (cls4.getD k 0)) x i = true := fun x i hx hi h2 => by
  unfold mt en
  rw [dl_lo hx, dl_hi hi h2, (ops_ok k h).2.2.1]; simp
theorem deep_some (h6 : n ≤ 63) : PP (dl n (ops4.getD k 0) (cls4.getD k 0)) (dt n) = (List.range n).map fun i => (i, 2 * n - 1 - i) := by
  unfold PP; rw [dl_len]; exact deepP (d1 h) (d2 h) (d3 h) h6
theorem deep_none (h6 : 63 < n) : PP (dl n (ops4.getD k 0) (cls4.getD k 0)) (dt n) = [] := by
  unfold PP; rw [dl_len]; exact deep0 (d1 h) h6
end
theorem range_at {n i : Nat} (h : i < n) : ((List.range n).map fun i => (i, 2 * n - 1 - i)).getD i (0, 0) = (i, 2 * n - 1 - i) := by simp [List.getD, h]
end Br
theorem BracketDeep_walk (w : World) (hm : Marks w) (a0 : Int) (wf0 : (Lit.int .i64 a0).wf = true) (a1 : Int) (wf1 : (Lit.int .i64 a1).wf = true) :
    Calls Tryd.prog 7 #[.int .i64 a0, .int .i64 a1] w fun e w' => e = .returned (.bool true) ∧ Below w.heap.size w w' := by
  have HW := hide (works10_any w hm)
  have HM := hide hm
  obtain ⟨n, hn, en'⟩ := place_at a0 201 (by omega) (by omega)
  obtain ⟨k, hk, ek'⟩ := place_at a1 4 (by omega) (by omega)
  have en : wrap64 ((IntKind.u64.wrap a0).tmod 201) = (n : Int) := en'
  have ek : wrap64 ((IntKind.u64.wrap a1).tmod 4) = (k : Int) := ek'
  clear en' ek'
  obtain ⟨ir, hir, hz0, hz1, hz2⟩ := info_parts infoRune
  obtain ⟨ii, hii, hy0, hy1, hy2⟩ := info_parts infoInt
  have HIR := hide hir
  have HZ0 := hide hz0
  have HZ1 := hide hz1
  have HZ2 := hide hz2
  have HII := hide hii
  have HY0 := hide hy0
  have HY1 := hide hy1
  have HY2 := hide hy2
  have HOK := hide (Br.ops_ok k hk)
  have HDS := hide (Br.deep_some (n := n) hk)
  have HDN := hide (Br.deep_none (n := n) hk)
  have hki : (k : Int) < 4 := by omega
  clear hm wf0 wf1 hir hz0 hz1 hz2 hii hy0 hy1 hy2
  go_enter Tryd.func7, Tryd.ntmps7
  go_wp2_with fail
  refine HW.out.mono ?_
  rintro e w1 ⟨rfl, hk1⟩
  obtain ⟨W2, hW2⟩ : ∃ W2, w1.alloc (.cells #[.int .i32 40, .int .i32 91, .int .i32 9001, .int .i32 12296] 21) = W2 := ⟨_, rfl⟩
  have hk2 : KO w1 W2 := by rw [← hW2]; exact KO.alloc (KO.refl _) _
  have hro : Row .i32 W2 (some ⟨w1.heap.size, 0, none⟩) 4 4 Br.ops4 := by rw [← hW2]; exact row_lit .i32 w1 Br.ops4 21 (by decide)
  obtain ⟨W3, hW3⟩ : ∃ W3, W2.alloc (.cells #[.int .i32 41, .int .i32 93, .int .i32 12297, .int .i32 9002] 21) = W3 := ⟨_, rfl⟩
  have hk3 : KO W2 W3 := by rw [← hW3]; exact KO.alloc (KO.refl _) _
  have hrc : Row .i32 W3 (some ⟨W2.heap.size, 0, none⟩) 4 4 Br.cls4 := by rw [← hW3]; exact row_lit .i32 W2 Br.cls4 21 (by decide)
  have HKW := hide (KO.on hk1 (KO.on hk2 hk3))
  have HRO := hide (hro.below hk3)
  have HRC := hide hrc
  have HL0 : Hid (LT W3 (.slice none 0 0) (.slice none 0 0) 0 0 [] [] W3) := hide ⟨Below.refl _ _, World.ownsRow_nil _ _ _ _, World.ownsRow_nil _ _ _ _⟩
  have hs2 : W2.heap.size = w1.heap.size + 1 := by rw [← hW2]; simp
  clear hk1 hk2 hk3 hro hrc HW
  go_wp2
  rw [en, ek]
  clear hW2 hW3
  generalize hop : Br.ops4.getD k 0 = op at *
  generalize hcl : Br.cls4.getD k 0 = cl at *
  have hbt := build_two
  have heq := run_same2
  go_loopw [8, 9, 10] (fun s8 s9 s10 wr => ∃ (i : Nat) (vl vt : Value), vl = s8 ∧ vt = s9 ∧ s10 = .int .i64 (i : Int) ∧ i ≤ n ∧ Hid (LT W3 vl vt i i (List.replicate i op) (List.replicate i 14) wr)) (fun _ _ s10 _ => n - (intOf s10).toNat)
  case atStart => exact ⟨0, _, _, rfl, rfl, rfl, Nat.zero_le _, HL0⟩
  case round =>
    obtain ⟨i, vl, vt, hvl, hvt, rfl, hi, HL⟩ := hrel
    subst hvl
    subst hvt
    clear HL0
    by_cases hin : i < n
    · have hin' : (i : Int) < (n : Int) := by omega
      obtain ⟨b, off, eb, hb, hc⟩ := (HRO.out.below HL.out.old).cells (by omega)
      have gk := hc k (by rw [HRO.out.len]; exact hk)
      simp only [Option.some.injEq, Addr.mk.injEq, and_true] at eb
      obtain ⟨rfl, rfl⟩ := eb
      rw [hop, Nat.zero_add] at gk
      clear hc hb
      go_wp2_with (first
        | (at_builtin; refine wpList_append_one wr rfl (.tmp 33) (.tmp 38) 22 rfl W3.heap.size 21 ir _ 4 Tryd.underlying22 HIR.out HZ0.out HZ1.out HZ2.out rfl vl i _ rfl (.int .i32 op) HL.out.ol _ rfl rfl rfl (by omega) (by omega) HL.out.old.size ?_; intro v1 W4 ho1 hg1; have HL1 := hide (HL.out.pushL ho1 hg1); clear ho1 hg1)
        | (at_builtin; refine wpList_append_one W4 rfl (.tmp 40) (.tmp 41) 23 rfl W3.heap.size 3 ii _ 8 Tryd.underlying23 HII.out HY0.out HY1.out HY2.out rfl vt i _ rfl (.int .i64 14) HL1.out.ot _ rfl rfl rfl (by omega) (by omega) HL1.out.old.size ?_; intro v2 W5 ho2 hg2; have HL2 := hide (HL1.out.pushT ho2 hg2); clear ho2 hg2))
      go_roundw
      case rel => exact ⟨i + 1, _, _, rfl, rfl, by go_num, by omega, by rw [List.replicate_succ', List.replicate_succ']; exact HL2⟩
      case measure => simp [intOf]; omega
    · obtain rfl : i = n := by omega
      have hne : ¬ ((i : Int) < (i : Int)) := by omega
      have HL0 : Hid (LT W3 vl vt (i + 0) (i + 0) (List.replicate i op ++ List.replicate 0 cl) (List.replicate i 14 ++ List.replicate 0 14) wr) := hide (by rw [List.replicate_zero, List.append_nil, List.replicate_zero, List.append_nil]; exact HL.out)
      clear HL hin
      go_wp2
      go_loopw [8, 9, 11] (fun s8 s9 s11 wr => ∃ (j : Nat) (vl vt : Value), vl = s8 ∧ vt = s9 ∧ s11 = .int .i64 (j : Int) ∧ j ≤ i ∧ Hid (LT W3 vl vt (i + j) (i + j) (List.replicate i op ++ List.replicate j cl) (List.replicate i 14 ++ List.replicate j 14) wr)) (fun _ _ s11 _ => i - (intOf s11).toNat)
      case atStart => exact ⟨0, _, _, rfl, rfl, rfl, Nat.zero_le _, HL0⟩
      case round =>
        rename World => wj
        obtain ⟨j, vl2, vt2, hvl, hvt, rfl, hj, HL⟩ := hrel
        subst hvl
        subst hvt
        clear HL0
        by_cases hjn : j < i
        · have hjn' : (j : Int) < (i : Int) := by omega
          obtain ⟨b, off, eb, hb, hc⟩ := (HRC.out.below HL.out.old).cells (by omega)
          have gk := hc k (by rw [HRC.out.len]; exact hk)
          simp only [Option.some.injEq, Addr.mk.injEq, and_true] at eb
          obtain ⟨rfl, rfl⟩ := eb
          rw [hcl, Nat.zero_add, hs2] at gk
          clear hc hb
          go_wp2_with (first
            | (at_builtin; refine wpList_append_one wj rfl (.tmp 48) (.tmp 53) 22 rfl W3.heap.size 21 ir _ 4 Tryd.underlying22 HIR.out HZ0.out HZ1.out HZ2.out rfl vl2 (i + j) _ rfl (.int .i32 cl) HL.out.ol _ rfl rfl rfl (by omega) (by omega) HL.out.old.size ?_; intro v1 W4 ho1 hg1; have HL1 := hide (HL.out.pushL ho1 hg1); clear ho1 hg1)
            | (at_builtin; refine wpList_append_one W4 rfl (.tmp 55) (.tmp 56) 23 rfl W3.heap.size 3 ii _ 8 Tryd.underlying23 HII.out HY0.out HY1.out HY2.out rfl vt2 (i + j) _ rfl (.int .i64 14) HL1.out.ot _ rfl rfl rfl (by omega) (by omega) HL1.out.old.size ?_; intro v2 W5 ho2 hg2; have HL2 := hide (HL1.out.pushT ho2 hg2); clear ho2 hg2))
          go_roundw
          case rel => exact ⟨j + 1, _, _, rfl, rfl, by go_num, by omega, by rw [List.replicate_succ' (n := j) (a := cl), List.replicate_succ' (n := j) (a := 14), ← List.append_assoc, ← List.append_assoc]; exact HL2⟩
          case measure => simp [intOf]; omega
        · obtain rfl : j = i := by omega
          have hne2 : ¬ ((j : Int) < (j : Int)) := by omega
          obtain ⟨al, cal, el, rl⟩ := row_of_owns HL.out.ol
          obtain ⟨at', cat, et, rt⟩ := row_of_owns HL.out.ot
          subst el; subst et
          have hwf : ∀ x ∈ Br.dl j op cl, (Lit.int .i32 x).wf = true := by
            intro x hx
            simp only [Br.dl, List.mem_append, List.mem_replicate] at hx
            rcases hx with ⟨_, rfl⟩ | ⟨_, rfl⟩
            · exact HOK.out.2.2.2.1
            · exact HOK.out.2.2.2.2
          have HP := hide (pairs_ok al at' (j + j) cal cat (Br.dl j op cl) (Br.dt j) wj rl rt hwf (HM.out.below (KO.on HKW.out HL.out.old)) (by omega))
          have HKJ := hide (KO.on HKW.out HL.out.old)
          clear hwf rl rt HL hjn
          by_cases h63 : 63 < j
          · have h63' : (63 : Int) < (j : Int) := by omega
            rw [HDN.out h63] at HP
            go_wp2_with fail
            refine HP.out.mono ?_
            rintro e w7 ⟨ap, cp, rfl, hpp, hk7⟩
            have HK7 := hide (KO.on HKJ.out hk7)
            clear hpp hk7
            go_wp2
            go_ret
            exact ⟨rfl, HK7.out⟩
          · have h63' : ¬ (63 : Int) < (j : Int) := by omega
            rw [HDS.out (by omega)] at HP
            have hlen : ((List.range j).map fun i => (i, 2 * j - 1 - i)).length = j := by simp
            rw [hlen] at HP
            have HRA := hide (fun q (hq : q < j) => Br.range_at hq)
            generalize ((List.range j).map fun i => (i, 2 * j - 1 - i)) = PS at *
            go_wp2_with fail
            refine HP.out.mono ?_
            rintro e w7 ⟨ap, cp, rfl, hpp, hk7⟩
            have HK7 := hide (KO.on HKJ.out hk7)
            have HPP := hide hpp
            have hcp := hpp.le
            clear hpp hk7 HP
            go_wp2
            go_loopw [73] (fun v wr => ∃ q : Nat, v = .int .i64 (q : Int) ∧ q ≤ j ∧ Hid (KO w7 wr)) (fun v _ => j - (intOf v).toNat)
            case atStart => exact ⟨0, rfl, Nat.zero_le _, hide (KO.refl _)⟩
            case round =>
              rename World => wq
              obtain ⟨q, rfl, hq, HK⟩ := hrel
              by_cases hqj : q < j
              · have hqj' : (q : Int) < (j : Int) := by omega
                obtain ⟨b, eb, hb, hc⟩ := (HPP.out.below HK.out).cells (by omega)
                obtain ⟨t0, t1⟩ := hc q hqj
                subst eb
                rw [HRA.out q hqj] at t0 t1
                simp only at t0 t1
                have hc2 : ((2 * j - 1 - q : Nat) : Int) = 2 * (j : Int) - 1 - (q : Int) := by omega
                rw [hc2] at t1
                obtain ⟨g0, g1⟩ := cells2 wq (.int .i64 (q : Int)) (.int .i64 (2 * (j : Int) - 1 - (q : Int))) 42
                have HKQ := hide (KO.alloc HK.out (.cells #[.int .i64 (q : Int), .int .i64 (2 * (j : Int) - 1 - (q : Int))] 42))
                clear hc hb HK
                go_wp2_with (first
                  | (with_reducible refine at_store { dst := none, op := .store 42 _ _, type := _, pos := _, after := _, guard := none } ?_; refine wpList_store_new wq rfl 42 _ _ rfl rfl #[.int .i64 0, .int .i64 0] #[.int .i64 (q : Int), .int .i64 (2 * (j : Int) - 1 - (q : Int))] rfl rfl (two_info two64 _ _) rfl (two_one64 _ _) ?_))
                go_roundw
                case rel => exact ⟨q + 1, by go_num, by omega, HKQ⟩
                case measure => simp [intOf]; omega
              · obtain rfl : q = j := by omega
                have hne3 : ¬ ((q : Int) < (q : Int)) := by omega
                have HE := hide (KO.on HK7.out HK.out)
                go_wp2
                go_ret
                exact ⟨rfl, HE.out⟩
end Go.Proofs.YtkkmifpdhcdkpaaDoor
