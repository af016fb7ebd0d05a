/- The contract of readForm: what stands at the front of bytes, as 'Utf.read' says; nothing is written. -/
import Derived.Test.YtkcalmighgdojabLeaf
import Derived.ScopeJumps
import Derived.WalkMore
namespace Go.Proofs.Ytkcalmighgdojab
open Go.RowKit
set_option maxHeartbeats 400000 in
theorem read_nil (ao : Option Addr) (cap : Nat) (w : World) :
    Calls Try.prog 13 #[.slice ao 0 cap] w fun e w' => e = .returned (.tuple #[.int .i32 0, .int .i64 0]) ∧ w = w' := by
  go_enter Try.func13, Try.ntmps13
  go_wp2
  refine wp_scope_jumps 0 (fun a' w' => w' = w ∧ ∃ tmps : Array Value, a' = { tmps := tmps, defers := [] } ∧ tmps.size = 53) (fun _ _ => 0) rfl ?_ ?_
  · go_wp2
    go_step3
    exact ⟨rfl, rfl, _, rfl, rfl⟩
  · rintro a' w' ⟨rfl, tmps, rfl, ht⟩
    go_wp2
    simp only [Exit.jump]
    exact bodyPost_ret (v := .tuple #[.int .i32 0, .int .i64 0]) (by simp [results, Try.results13, go_sem, ht]) rfl ⟨rfl, rfl⟩
set_option maxHeartbeats 1000000 in
theorem read_cons (b off cap : Nat) (c : Int) (cs : List Int) (w : World) (hcap : cs.length + 1 ≤ cap) (hm : cap ≤ maxLen) (hb : ∀ x ∈ c :: cs, 0 ≤ x ∧ x ≤ 255)
    (hc : ∀ i, i < (c :: cs).length → w.cell? ⟨b, off + i, none⟩ = some (.int .u8 ((c :: cs).getD i 0))) :
    Calls Try.prog 13 #[.slice (some ⟨b, off, none⟩) (cs.length + 1) cap] w fun e w' => e = .returned (.tuple #[.int .i32 (Utf.read (c :: cs)).1, .int .i64 (Utf.read (c :: cs)).2]) ∧ w = w' := by
  unfold maxLen at hm
  have hc0 : w.cell? ⟨b, off, none⟩ = some (.int .u8 c) := by simpa using hc 0 (by simp)
  have hcb := hb c (by simp)
  have hf := Utf.first_cases c hcb.1 hcb.2
  have hrs := @Utf.read_short c cs
  have hrn := @Utf.read_none c cs
  have hro := fun v => @Utf.read_odd c v cs
  have hrv := fun v => @Utf.read_some c v cs
  have hfa := first_any c w hcb.1 hcb.2
  generalize Utf.read (c :: cs) = R at *
  rcases hfs : Utf.first c with ⟨r, s⟩
  simp only [hfs] at hf hrs hrn hro hrv hfa
  have HA := hide hfa
  have HS := hide hrs
  have HN := hide hrn
  have HO := hide hro
  have HV := hide hrv
  have HC := hide hc
  have HB := hide hb
  clear hfa hrs hrn hro hrv hc hb hfs
  go_enter Try.func13, Try.ntmps13
  go_wp2
  refine wp_scope_jumps 0 (fun a' w' => w' = w ∧ Hid (R = (0, 0)) ∧ ∃ tmps : Array Value, a' = { tmps := tmps, defers := [] } ∧ tmps.size = 53) (fun _ _ => 0) rfl ?_ ?_
  · by_cases h0 : s = 0
    · have HR := hide (HS.out (.inl h0))
      clear HS
      subst h0
      go_wp2_with (go_at_call 15; refine (HA.out).mono ?_; rintro e w' ⟨rfl, rfl⟩)
      go_step3
      exact ⟨rfl, rfl, HR, _, rfl, rfl⟩
    by_cases h1 : (cs.length : Int) + 1 < s
    · have h0' : (s == 0) = false := by simp [h0]
      go_wp2_with (go_at_call 15; refine (HA.out).mono ?_; rintro e w' ⟨rfl, rfl⟩)
      go_step3
      exact ⟨rfl, rfl, HS.out (.inr h1), _, rfl, rfl⟩
    have h0' : (s == 0) = false := by simp [h0]
    have hn : ¬ (s = 0 ∨ (cs.length : Int) + 1 < s) := by omega
    have HV2 := hide (fun v => HV.out v hn)
    clear HV HS hn
    by_cases h2 : s = 1
    · subst h2
      have hr : Utf.conts r (cs.take ((1 : Int).toNat - 1)) = some r := by simp [Utf.conts]
      by_cases hz : Utf.size r = 1
      · have HR := hide (HV2.out r hr hz)
        have hz' : (Utf.size r != 1) = false := by simp [hz]
        clear HV2 HO HN
        go_wp2_with (go_at_call 15; refine (HA.out).mono ?_; rintro e w' ⟨rfl, rfl⟩)
        all_goals
          refine wp_loop_rounds 1 ?_
          rw [rounds_succ]
          go_wp2_with (go_at_call 10; refine (size_any _ _).mono ?_; rintro e w' ⟨rfl, rfl⟩)
          simp only [Exit.jump]
          go_ret2
          rw [HR.out]
          exact ⟨rfl, rfl⟩
      · have HR := hide (HO.out r hr hz)
        have hz' : (Utf.size r != 1) = true := by simp [hz]
        clear HV2 HO HN
        go_wp2_with (go_at_call 15; refine (HA.out).mono ?_; rintro e w' ⟨rfl, rfl⟩)
        all_goals
          refine wp_loop_rounds 1 ?_
          rw [rounds_succ]
          go_wp2_with (go_at_call 10; refine (size_any _ _).mono ?_; rintro e w' ⟨rfl, rfl⟩)
          go_step3
          exact ⟨rfl, rfl, HR, _, rfl, rfl⟩
    · have hs2 : 2 ≤ s ∧ s ≤ 4 ∧ 0 ≤ r ∧ r < 32 := by omega
      clear hf
      obtain ⟨hs2, hs4, hr0, hr32⟩ := hs2
      go_wp2_with (go_at_call 15; refine (HA.out).mono ?_; rintro e w' ⟨rfl, rfl⟩)
      have hsl : ∃ n : Nat, s = n + 1 ∧ n ≤ 3 ∧ n ≤ cs.length := ⟨s.toNat - 1, by omega, by omega, by omega⟩
      obtain ⟨n, rfl, hn3, hnl⟩ := hsl
      have eT : ((n : Int) + 1).toNat - 1 = n := by omega
      rw [eT] at HN HO HV2
      have hTl : (cs.take n).length = n := by simp; omega
      have HT : Hid (∀ i, i < n → w.cell? ⟨b, off + 1 + i, none⟩ = some (.int .u8 ((cs.take n).getD i 0)) ∧ 0 ≤ (cs.take n).getD i 0 ∧ (cs.take n).getD i 0 ≤ 255) := by
        intro i hi
        have e1 := HC.out (i + 1) (by simp; omega)
        have e2 : (c :: cs).getD (i + 1) 0 = (cs.take n).getD i 0 := by rw [Utf.getD_take hi]; simp
        rw [e2, show off + (i + 1) = off + 1 + i from by omega] at e1
        refine ⟨e1, ?_⟩
        rw [← e2]
        have : i + 1 < (c :: cs).length := by simp; omega
        have e3 : (c :: cs).getD (i + 1) 0 = (c :: cs)[i + 1] := by simp [List.getD, List.getElem?_eq_getElem this]
        rw [e3]
        exact HB.out _ (List.getElem_mem _)
      generalize cs.take n = T at *
      go_loop [4, 30] (fun q i => ∃ (k : Nat) (v : Int), k ≤ n ∧ i = .int .i64 k ∧ q = .int .i32 v ∧ Utf.Bd k v ∧ Hid (Utf.conts r T = Utf.conts v (T.drop k))) (fun _ i => n - (intOf i).toNat)
      case atStart => exact ⟨0, r, Nat.zero_le _, rfl, rfl, ⟨hr0, by simpa using hr32⟩, by show _ = _; simp⟩
      case round =>
        obtain ⟨k, v, hk, rfl, rfl, hB, hX⟩ := hrel
        have hv := Utf.Bd_le hB (by omega)
        by_cases hlt : k < n
        · obtain ⟨hck, hd0, hd1⟩ := HT.out k hlt
          have Xs := hide (Utf.conts_step (hX.out) (by omega : k < T.length))
          have Xn := hide (Utf.conts_stop (hX.out) (by omega : k < T.length))
          generalize T.getD k 0 = d at *
          have HB1 := hide (fun (e1 : 0 ≤ d - 128) (e2 : d - 128 ≤ 63) => Utf.Bd_step hB e1 e2)
          clear hX hB
          by_cases g1 : d < 128
          · have HR := hide (HN.out (Xn.out (.inl g1)))
            go_wp2
            go_step3
            exact ⟨rfl, rfl, HR, _, rfl, rfl⟩
          by_cases g2 : 191 < d
          · have HR := hide (HN.out (Xn.out (.inr g2)))
            go_wp2
            go_step3
            exact ⟨rfl, rfl, HR, _, rfl, rfl⟩
          have X := hide (Xs.out (by omega))
          clear Xs Xn
          go_wp2
          go_round
          case rel => exact ⟨k + 1, _, by omega, by go_num, rfl, HB1.out (by omega) (by omega), X⟩
          case measure => simp [intOf]; omega
        · have X := Utf.conts_end (hX.out) (by omega)
          by_cases hz : Utf.size v = n + 1
          · have HR := hide (HV2.out v X hz)
            have hz' : (Utf.size v != n + 1) = false := by simp [hz]
            have hkn : k = n := by omega
            clear HV2 HO HN X hX
            go_wp2_with (go_at_call 10; refine (size_any _ _).mono ?_; rintro e w' ⟨rfl, rfl⟩)
            simp only [Exit.jump]
            go_ret2
            rw [HR.out]
            exact ⟨rfl, rfl⟩
          · have HR := hide (HO.out v X hz)
            have hz' : (Utf.size v != n + 1) = true := by simp [hz]
            clear HV2 HO HN X hX
            go_wp2_with (go_at_call 10; refine (size_any _ _).mono ?_; rintro e w' ⟨rfl, rfl⟩)
            go_step3
            exact ⟨rfl, rfl, HR, _, rfl, rfl⟩
  · rintro a' w' ⟨rfl, hR, tmps, rfl, ht⟩
    have hR' : R = (0, 0) := hR
    subst hR'
    go_wp2
    simp only [Exit.jump]
    exact bodyPost_ret (v := .tuple #[.int .i32 0, .int .i64 0]) (by simp [results, Try.results13, go_sem, ht]) rfl ⟨rfl, rfl⟩
end Go.Proofs.Ytkcalmighgdojab
