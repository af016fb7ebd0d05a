/- The law DiskTorn: a sector of which one write waits, behind a crash. -/
import Derived.Test.YthhfgcpflclflaaTn17
import Derived.Test.YthhfgcpflclflaaRc17
import Derived.BigRegion
namespace Go.Proofs.Ythhfgcpflclflaa
open Go.RowKit
set_option linter.unusedVariables false
set_option maxHeartbeats 2000000
set_option maxRecDepth 100000
/-- Pieces of a list of 64 bytes. -/
theorem upto17 (ao : Option Addr) (v : Int) (q : Nat) (h : v = (q : Int)) (hq : q ≤ 64) (w : World) : (Instr.slice 33 (.slice ao 64 64) none (some (.int .i64 v)) none).run Try.prog w = .ok (.slice ao q 64) w := by
  subst h
  obtain ⟨ii, hii, _, _, _⟩ := info_parts byteInfo
  exact run_upto Try.underlying33 hii (by kernel_rfl) ao 64 64 q hq w
theorem from17 (ao : Option Addr) (v : Int) (q : Nat) (h : v = (q : Int)) (hq : q ≤ 64) (w : World) : (Instr.slice 33 (.slice ao 64 64) (some (.int .i64 v)) none none).run Try.prog w = .ok (.slice (tl ao 64 q) (64 - q) (64 - q)) w := by
  subst h
  obtain ⟨ii, hii, _, _, _⟩ := info_parts byteInfo
  exact run_from Try.underlying33 hii (by kernel_rfl) ao 64 64 q hq w
theorem row_take17 {w : World} {ao : Option Addr} {xs : List Int} (h : Row .u8 w ao 64 64 xs) {q : Nat} (hq : q ≤ 64) : Row .u8 w ao q 64 (xs.take q) := by
  have hl := h.len
  refine ⟨by rw [List.length_take, hl]; omega, hq, h.max, fun h0 => ?_, fun hn => ?_⟩
  · obtain ⟨b, off, rfl, hb, hc⟩ := h.cells (by omega)
    refine ⟨b, off, rfl, hb, fun i hi => ?_⟩
    rw [List.length_take] at hi
    rw [hc i (by omega)]
    simp [List.getD, List.getElem?_take_of_lt (show i < q by omega)]
  · have := h.nil hn
    omega
theorem make17 : ∃ Z : Array Value, Z = (uv (List.replicate 64 0)).toArray ∧ ∀ w, (Instr.makeSlice 33 (.int .i64 64) (.int .i64 64)).run Try.prog w = .ok (.slice (some ⟨w.heap.size, 0, none⟩) 64 64) (w.alloc (.cells Z 5)) := ⟨_, rfl, fun _ => by kernel_rfl⟩
theorem kp_four (v : Int) : (v < 0 ∧ (0 : Int) = (Dk.kp v : Int)) ∨ (v = 0 ∧ (0 : Int) = (Dk.kp v : Int)) ∨ (0 < v ∧ v < 64 ∧ v = (Dk.kp v : Int)) ∨ (v = 64 ∧ (64 : Int) = (Dk.kp v : Int)) ∨ (64 < v ∧ (64 : Int) = (Dk.kp v : Int)) := by
  unfold Dk.kp
  split
  · exact .inl ⟨by assumption, rfl⟩
  · split
    · exact .inr (.inr (.inr (.inr ⟨by assumption, rfl⟩)))
    · omega
theorem DiskTorn_walk (w : World) (a0 : Option Addr) (n0 cap0 : Nat) (z0 : List Int) (h0 : Row .u8 w a0 n0 cap0 z0) (hf0 : ∀ z ∈ z0, (Lit.int .u8 z).wf = true) (hs0 : n0 * 1 ≤ 140737488351232) (a1 : Option Addr) (n1 cap1 : Nat) (z1 : List Int) (h1 : Row .u8 w a1 n1 cap1 z1) (hf1 : ∀ z ∈ z1, (Lit.int .u8 z).wf = true) (hs1 : n1 * 1 ≤ 140737488351232) (v : Int) (hv : (Lit.int .i64 v).wf = true) :
    Calls Try.prog 6 #[.slice a0 n0 cap0, .slice a1 n1 cap1, .int .i64 v] w fun e w' => e = .returned (.bool true) ∧ Below w.heap.size w w' := by
  have HWK := hide (works17_any w)
  have H0 := hide h0
  have H1 := hide h1
  have B0 := hide (Bytes.of_wf hf0)
  have B1 := hide (Bytes.of_wf hf1)
  clear h0 h1 hf0 hf1 hs0 hs1 hv
  go_enter Try.func6, Try.ntmps6
  go_wp2_with fail
  refine HWK.out.mono ?_
  rintro e w1 ⟨rfl, hk1⟩
  have K1 := hide hk1
  have HN := hide (onew_ok w1 3 (by omega) (by omega))
  clear hk1
  go_wp2_with fail
  refine HN.out.mono ?_
  rintro e w2 ⟨g, rfl, ho2, hk2⟩
  have K2 := hide (KO.on K1.out hk2)
  have O2 : Hid (OD (fun k => w.heap.size ≤ k ∧ k < w2.heap.size) w2 g (Dk.NW 3)) := hide (ho2.mono fun k hk q => ⟨Nat.le_trans K1.out.size q, hk⟩)
  have HF1 := hide (filled_any w2 1 (by omega))
  clear ho2 hk2 HN
  go_wp2_with fail
  refine HF1.out.mono ?_
  rintro e w3 ⟨rfl, hnr⟩
  have K3 := hide hnr.bel
  have A3 := hide (BK17.of_nr hnr)
  have HF2 := hide (filled_any w3 2 (by omega))
  clear hnr HF1
  go_wp2_with fail
  refine HF2.out.mono ?_
  rintro e w4 ⟨rfl, hnr⟩
  have hlt3 := A3.out.lt
  have K4 := hide (KO.on K3.out hnr.bel)
  have A4 := hide (A3.out.ko hnr.bel)
  have C4 := hide (BK17.of_nr hnr)
  clear hnr HF2
  obtain ⟨ga, hga⟩ : ∃ ga, w2.heap.size = ga := ⟨_, rfl⟩
  obtain ⟨gb, hgb⟩ : ∃ gb, w3.heap.size = gb := ⟨_, rfl⟩
  have HGA := hide hga
  have HGB := hide hgb
  rw [hga] at A4 hlt3
  rw [hgb] at C4 hlt3
  obtain ⟨w5, hc5, hb5, hm5⟩ := copy_row17 (H0.out.below (KO.on K2.out K4.out)) A4.out (by simp)
  have C5 := hide (C4.out.keep hm5 (by omega))
  have K5 : Hid (KO w w5) := hide ((KO.on K2.out K4.out).trans (hm5.below (B := w.heap.size) (KO.on K2.out K4.out).size fun k q => by have := K2.out.size; omega))
  obtain ⟨w6, hc6, hb6, hm6⟩ := copy_row17 (H1.out.below K5.out) C5.out (by simp)
  have A6 := hide (hb5.keep hm6 (by omega))
  have C6 := hide hb6
  have K6 : Hid (KO w w6) := hide (K5.out.trans (hm6.below (B := w.heap.size) K5.out.size fun k q => by have := K2.out.size; have := hlt3; omega))
  have O6 : Hid (OD (fun k => w.heap.size ≤ k ∧ k < ga) w6 g (Dk.NW 3)) := hide (by
    have h1 := O2.out.ko K4.out
    rw [HGA.out] at h1
    have h2 := h1.keep hm5 fun k _ q1 q2 => by omega
    exact h2.keep hm6 fun k _ q1 q2 => by omega)
  obtain ⟨A, hA⟩ : ∃ A, over17 z0 (List.replicate 64 1) = A := ⟨_, rfl⟩
  obtain ⟨B, hB⟩ : ∃ B, over17 z1 (List.replicate 64 2) = B := ⟨_, rfl⟩
  have LA : Hid (A.length = 64) := hide (by rw [← hA]; exact over_len (by simp))
  have LB : Hid (B.length = 64) := hide (by rw [← hB]; exact over_len (by simp))
  have YA : Hid (∀ x ∈ A, 0 ≤ x ∧ x ≤ 255) := hide (by rw [← hA]; exact over_bytes B0.out (by unfold Bytes; decide))
  have YB : Hid (∀ x ∈ B, 0 ≤ x ∧ x ≤ 255) := hide (by rw [← hB]; exact over_bytes B1.out (by unfold Bytes; decide))
  rw [hA] at A6
  rw [hB] at C6
  have HW1 := hide (owrite_any O6.out (Bd.nw (by omega)) (by omega) 1 _ _ _ _ (A6.out.row LA.out) YA.out)
  rw [T1_eq A LA.out, show Dk.tick { Dk.NW 3 with waits := [(1, A)] } = T1 A from by unfold T1; rw [T1_eq A LA.out]] at HW1
  clear hb5 hm5 hb6 hm6 hA hB hlt3
  go_wp2_with fail
  refine HW1.out.mono ?_
  rintro e w7 ⟨rfl, ho7, hm7⟩
  have G6 := hide A6.out.lt
  have G6b := hide C6.out.lt
  have HAB : Hid (ga ≠ gb ∧ w.heap.size ≤ ga ∧ w.heap.size ≤ gb) := hide ⟨by have := A3.out.lt; omega, by have := K2.out.size; omega, by have := K2.out.size; have := K3.out.size; omega⟩
  have A7 := hide (A6.out.keep hm7 (by omega))
  have C7 := hide (C6.out.keep hm7 (by have := HAB.out; have := K3.out.size; omega))
  have K7 := hide (K6.out.trans (hm7.below (B := w.heap.size) K6.out.size fun k q => q.1))
  have O7 := hide (ho7.mono (G := fun k => w.heap.size ≤ k ∧ k ≠ ga ∧ k ≠ gb) fun k _ q => by
    have := HAB.out
    have := K3.out.size
    have := G6.out
    have := G6b.out
    have := K6.out.size
    omega)
  have HB1 : Hid (Bd (T1 A) 1) := hide ((Bd.nw (n := 3) (by omega)).wr 1 A)
  have HB2 : Hid (Bd (T2 A) 2) := hide HB1.out.fl
  have HB3 : Hid (Bd (T3 A B) 3) := hide (HB2.out.wr 1 B)
  have HFL := hide (oflush_any O7.out HB1.out (by omega))
  rw [(T2_eq A LA.out).1, show (Dk.FL (T1 A)).1 = T2 A from rfl] at HFL
  clear ho7 hm7 hc5 hc6 hga hgb HW1
  go_wp2_with fail
  refine HFL.out.mono ?_
  rintro e w8 ⟨rfl, ho8, hm8⟩
  have A8 := hide (A7.out.keep hm8 (by omega))
  have C8 := hide (C7.out.keep hm8 (by omega))
  have K8 := hide (K7.out.trans (hm8.below (B := w.heap.size) K7.out.size fun k q => q.1))
  have O8 := hide ho8
  have HW2 := hide (owrite_any O8.out HB2.out (by omega) 1 _ _ _ _ (C8.out.row LB.out) YB.out)
  rw [(T3_eq A B LA.out LB.out).1, show (Dk.WR (T2 A) 1 B).1 = T3 A B from rfl] at HW2
  clear ho8 hm8 HFL
  go_wp2_with fail
  refine HW2.out.mono ?_
  rintro e w9 ⟨rfl, ho9, hm9⟩
  have A9 := hide (A8.out.keep hm9 (by omega))
  have C9 := hide (C8.out.keep hm9 (by omega))
  have K9 := hide (K8.out.trans (hm9.below (B := w.heap.size) K8.out.size fun k q => q.1))
  have O9 := hide ho9
  have K10 := hide (KO.alloc (KO.refl w9) (.cells #[.int .i64 v] 3))
  have HC := hide (ocrash_any (O9.out.ko K10.out) HB3.out _ _ _ _ (row_lit .i64 w9 [v] 3 (by simp [maxLen])))
  clear ho9 hm9 HW2
  go_wp2_with fail
  refine HC.out.mono ?_
  rintro e w11 ⟨x, rfl, ho11, hk11⟩
  have O11 := hide ho11
  have A11 := hide (A9.out.ko (KO.on K10.out hk11))
  have C11 := hide (C9.out.ko (KO.on K10.out hk11))
  have K11 := hide (KO.on K9.out (KO.on K10.out hk11))
  have HR1 := hide (oread_any O11.out 1)
  rw [T4_one A B v LA.out LB.out] at HR1
  have H3 := hide (kp_four v)
  have HTV := hide (show Dk.torn v B A = B.take (Dk.kp v) ++ A.drop (Dk.kp v) from rfl)
  have HQ := hide (Dk.kp_le v)
  obtain ⟨q, hq⟩ : ∃ q, Dk.kp v = q := ⟨_, rfl⟩
  rw [hq] at H3 HTV HQ
  obtain ⟨Z, hZ, hmk⟩ := make17
  have HZ := hide hZ
  have HL0 : Hid ((Dk.torn v B A).length = 64) := hide (Dk.torn_sec ⟨LB.out, YB.out⟩ ⟨LA.out, YA.out⟩).1
  have YT : Hid (Bytes (Dk.torn v B A)) := hide (Dk.torn_sec ⟨LB.out, YB.out⟩ ⟨LA.out, YA.out⟩).2
  rw [HL0.out] at HR1
  clear ho11 hk11 HC hq hZ
  have HX1 := hide (fun (u : Int) (hu : u = (q : Int)) => upto17 (some ⟨gb, 0, none⟩) u q hu HQ.out)
  have HX2 := hide (fun (u : Int) (hu : u = (q : Int)) => from17 (some ⟨ga, 0, none⟩) u q hu HQ.out)
  rcases H3.out with ⟨h1, hq⟩ | ⟨rfl, hq⟩ | ⟨h1, h2, hq⟩ | ⟨rfl, hq⟩ | ⟨h1, hq⟩
  all_goals
    have hs1 := HX1.out _ hq
    have hs2 := HX2.out _ hq
    clear hq
    go_wp2_with fail
    refine HR1.out.mono ?_
    rintro e w12 ⟨a12, c12, rfl, hr12, hk12, hx12⟩
    obtain ⟨rfl, _⟩ := hx12 (by trivial)
    clear hx12
    have R12 := hide hr12
    have K12 := hide (KO.on K11.out hk12)
    have HR2 := hide (oread_any (O11.out.ko hk12) 2)
    rw [T4_two A B _ LA.out LB.out, show (List.replicate 64 (0 : Int)).length = 64 from by simp] at HR2
    have A12 := hide (A11.out.ko hk12)
    have C12 := hide (C11.out.ko hk12)
    clear hr12 hk12
    go_wp2_with fail
    refine HR2.out.mono ?_
    rintro e w13 ⟨a13, c13, rfl, hr13, hk13, hx13⟩
    obtain ⟨rfl, _⟩ := hx13 (by trivial)
    clear hx13
    have K13 := hide (KO.on K12.out hk13)
    have e1 := congrArg str HTV.out
    rw [str_append] at e1
    have c1 : ∀ w', KO w13 w' → (convert 33 9 (.slice a12 64 64)).run Try.prog w' = .ok (.string (str (B.take q) ++ str (A.drop q))) w' := fun w' hk => by
      rw [← e1]
      exact run_str w' a12 64 64 _ (R12.out.below (KO.on hk13 hk)) YT.out
    have c2 : ∀ w', KO w13 w' → (convert 33 9 (.slice (some ⟨gb, 0, none⟩) q 64)).run Try.prog w' = .ok (.string (str (B.take q))) w' := fun w' hk =>
      run_str w' _ q 64 _ (row_take17 ((C12.out.ko (KO.on hk13 hk)).row LB.out) HQ.out) (Bytes.take YB.out q)
    have c3 : ∀ w', KO w13 w' → (convert 33 9 (.slice (tl (some ⟨ga, 0, none⟩) 64 q) (64 - q) (64 - q))).run Try.prog w' = .ok (.string (str (A.drop q))) w' := fun w' hk =>
      run_str w' _ (64 - q) (64 - q) _ (((A12.out.ko (KO.on hk13 hk)).row LA.out).drop HQ.out) (Bytes.drop YA.out q)
    have YZ : Bytes (List.replicate 64 (0 : Int)) := by unfold Bytes; decide
    have c4 : ∀ w', KO w13 w' → (convert 33 9 (.slice a13 64 64)).run Try.prog w' = .ok (.string (str (List.replicate 64 0))) w' := fun w' hk =>
      run_str w' a13 64 64 _ (Row.below hr13 hk) YZ
    have c5 : (convert 33 9 (.slice (some ⟨w13.heap.size, 0, none⟩) 64 64)).run Try.prog (w13.alloc (.cells Z 5)).drew = .ok (.string (str (List.replicate 64 0))) (w13.alloc (.cells Z 5)).drew := by
      have hb : BK17 (w13.alloc (.cells Z 5)).drew w13.heap.size (List.replicate 64 0) := by
        have := World.alloc_heap_new w13 (.cells Z 5)
        unfold BK17
        rw [← HZ.out]
        exact this
      exact run_str _ _ 64 64 _ (hb.row (by simp)) YZ
    have hsum : (str (B.take q)).size + (str (A.drop q)).size ≤ 9223372036854775807 := by
      have := LA.out
      have := LB.out
      rw [str_size, str_size, List.length_take, List.length_drop]; omega
    have hK : KO w13 w13 := KO.refl _
    have hKd : KO w13 w13.drew := KO.drew hK
    have hKa : KO w13 (w13.alloc (.cells Z 5)).drew := KO.drew (KO.alloc hK _)
    clear hr13 hk13 YZ e1
    generalize str (B.take q) = SB at *
    generalize str (A.drop q) = SA at *
    generalize str (List.replicate 64 0) = S0 at *
    go_wp2_with fail
    refine wp_region_noPanic ?_
    go_region_held (fun w' => KO w13 w') (first | assumption)
      (first | fail)
    all_goals
      refine NoPanic.normal ?_
      clear c1 c2 c3 c4 c5 hK hKd
      go_wp2
      go_ret
      exact ⟨by simp, KO.on K13.out hKa⟩
end Go.Proofs.Ythhfgcpflclflaa
