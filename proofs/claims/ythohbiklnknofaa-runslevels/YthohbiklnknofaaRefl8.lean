/- The document's Levels; like lists of lists. -/
import Derived.Test.YthohbiklnknofaaRefr8
namespace Go.Proofs.Ythohbiklnknofaa
open Go.RowKit Go.Maps
set_option linter.unusedVariables false
set_option maxHeartbeats 1000000
set_option maxRecDepth 100000
/-- A list more, in new memory. -/
theorem LO.addRow {B : Nat} {w : World} {v : Value} {vs : List Value} {rs : List (List Nat)} (h : LO B w v vs rs) {w1 w' : World} {u v' : Value} {r : List Nat} {o : Obj} (hB : B ≤ w.heap.size) (hb : Below w.heap.size w w1) (hu : w1.ownsRow w.heap.size 3 1 u r.length ((Rn.zs r).map (Value.int .i64)))
    (ho : w'.ownsRow B 22 1 v' (rs.length + 1) (vs ++ [u])) (hg : (w1.alloc o).grownBy w' v.ownBlock) : LO B w' v' (vs ++ [u]) (rs ++ [r]) := by
  have hl := h.len
  have h1 := (h.below hb).below ((Below.refl w1.heap.size w1).alloc (Nat.le_refl _) o)
  have hu1 := owns_mono (hu.alloc o) hB
  have key : ∀ {x : Value} {m : Nat} {ys : List Value}, (w1.alloc o).ownsRow B 3 1 x m ys → w'.ownsRow B 3 1 x m ys := fun hx => hx.kept hg (own_apart h1.oa hx (by decide))
  refine ⟨by simpa using ho, ?_, ?_⟩
  · intro j hj
    by_cases hj2 : j < rs.length
    · obtain ⟨x, hx1, hx2⟩ := h1.rows j hj2
      refine ⟨x, by rw [List.getElem?_append_left (by omega)]; exact hx1, ?_⟩
      rw [Rn.rn_left _ _ _ hj2]
      exact key hx2
    · obtain rfl : j = rs.length := by simp at hj; omega
      refine ⟨u, by rw [← hl]; simp, ?_⟩
      rw [Rn.rn_snoc]
      exact key hu1
  · have kk : ∀ (i : Nat) (x : Value) (g : Nat), i < vs.length → (vs ++ [u])[i]? = some x → x.ownBlock = some g → ¬ u.ownBlock = some g := by
      intro i x g hi hx hxg hug
      rw [List.getElem?_append_left hi] at hx
      obtain ⟨x', hx', hox⟩ := h.rows i (by omega)
      rw [hx] at hx'
      simp at hx'
      subst hx'
      have h2 := (hox.lt g hxg).2
      have h3 := (hu.lt g hug).1
      omega
    have last : ∀ (i : Nat) (x : Value), ¬ i < vs.length → (vs ++ [u])[i]? = some x → x = u ∧ i = vs.length := by
      intro i x hi hx
      have h2 := (List.getElem?_eq_some_iff.1 hx).1
      rw [List.length_append, List.length_singleton] at h2
      have e : i = vs.length := by omega
      subst e
      simp at hx
      exact ⟨hx.symm, rfl⟩
    intro i j x y g hx hy hij hxg hyg
    by_cases hi : i < vs.length
    · by_cases hj : j < vs.length
      · rw [List.getElem?_append_left hi] at hx
        rw [List.getElem?_append_left hj] at hy
        exact h.ne i j x y g hx hy hij hxg hyg
      · obtain ⟨rfl, _⟩ := last j y hj hy
        exact kk i x g hi hx hxg hyg
    · obtain ⟨rfl, e1⟩ := last i x hi hx
      by_cases hj : j < vs.length
      · exact kk j y g hj hy hyg hxg
      · obtain ⟨_, e2⟩ := last j y hj hy
        omega
theorem rn_take (rs : List (List Nat)) (j : Nat) (h : j < rs.length) : rs.take (j + 1) = rs.take j ++ [Rn.rn rs j] := by
  rw [List.take_succ_eq_append_getElem h]
  simp [Rn.rn, List.getD, h]
theorem rlevels_any (ao : Option Addr) (n cap : Nat) (lv : List Int) (w : World) (h : Row .i64 w ao n cap lv) (hn : n ≤ 2000) :
    Calls Try.prog 11 #[.slice ao n cap] w fun e w' => ∃ v, e = .returned v ∧ (∃ vs, LO w.heap.size w' v vs (Rn.RS lv)) ∧ Below w.heap.size w w' := by
  obtain ⟨jj, hjj, hz0, hz1, hz2⟩ := info_parts infoInts
  have HJJ := hide hjj
  have HZ0 := hide hz0
  have HZ1 := hide hz1
  have HZ2 := hide hz2
  have H := hide h
  have HL := hide h.len
  have hR := Rn.runs_of lv
  have hRl2 : (Rn.RS lv).length ≤ n := by have h1 := Rn.R_len lv lv.length; have := h.len; unfold Rn.RS; omega
  generalize Rn.RS lv = rs at *
  have HR := hide hR
  clear h hjj hz0 hz1 hz2 hR
  go_enter Try.func11, Try.ntmps11
  go_wp2
  go_loopw [3, 4] (fun s3 s4 wr => ∃ i j : Nat, i ≤ n ∧ j ≤ rs.length ∧ s4 = .int .i64 (i : Int) ∧ Hid ((∀ j', j' < j → Rn.fst rs j' < i) ∧ (j < rs.length → i ≤ Rn.fst rs j) ∧ (∃ vs, LO w.heap.size wr s3 vs (rs.take j)) ∧ Below w.heap.size w wr)) (fun _ s4 _ => n - (intOf s4).toNat)
  case atStart => exact ⟨0, 0, Nat.zero_le _, Nat.zero_le _, rfl, hide ⟨fun j' h => by omega, fun _ => Nat.zero_le _, ⟨[], LO.begin _ _⟩, Below.refl _ _⟩⟩
  case round =>
    obtain ⟨i, j, hi, hj, rfl, hq⟩ := hrel
    obtain ⟨q1, q2, ⟨vs, hlo⟩, hbw⟩ := hq.out
    obtain ⟨av, cv, rfl, hav⟩ := owns_form hlo.oa
    have hlt : (rs.take j).length = j := by simp; omega
    by_cases hin : i < n
    · have hin2 : (i : Int) < (n : Int) := by omega
      have hrow := H.out.below hbw
      by_cases hyes : j < rs.length ∧ Rn.fst rs j = i
      · obtain ⟨hj1, hj2⟩ := hyes
        have hfy := rfirst_yes hrow hn HR.out hj1
        rw [hj2] at hfy
        have HFY := hide hfy
        have HRU := hide (fun q => by
          have := rrun_any (hrow.below (below_drewN wr q)) hn HR.out hj1
          rw [hj2] at this
          exact this)
        have HTK := hide (rn_take rs j hj1)
        have hnext : j + 1 < rs.length → i + 1 ≤ Rn.fst rs (j + 1) := fun hjn => by have h1 := Rn.lst_fst HR.out (j + 1) j (by omega) hjn; have h2 := (Rn.run_le HR.out hj1 (HR.out.pos j hj1)).2; have e : (Rn.rn rs j).getD 0 0 = Rn.fst rs j := rfl; omega
        have HNX := hide hnext
        have hsz : w.heap.size ≤ wr.heap.size := hbw.size
        have HLO := hide (show ∀ q, LO w.heap.size (wr.drewN q) (.slice av j cv) vs (rs.take j) from fun q => by have := hlo.below (below_drewN wr q); rw [hlt] at this; exact this)
        have HBW := hide (show ∀ q, Below w.heap.size w (wr.drewN q) from fun q => KO.on hbw (below_drewN wr q))
        have HQ1 := hide q1
        have HLT := hide hlt
        rw [hlt]
        clear hq q1 q2 hlo hbw hrow hfy hnext hlt
        generalize hrr : Rn.rn rs j = r at *
        have HRR := hide hrr
        clear hrr
        go_wp2_with (first
          | (go_at_call 20; refine HFY.out.mono ?_; rintro e w1 ⟨rfl, qa, rfl⟩)
          | (go_at_call 21; refine (HRU.out _).mono ?_; rintro e w2 ⟨g2, c2, rfl, how2, hb2⟩; have hl2 := HLO.out qa; have hz2 := hb2.size; have hzz : wr.heap.size ≤ w2.heap.size := hz2)
          | (at_builtin; refine wpList_append_own_at _ rfl (.tmp 14) (.tmp 18) 24 rfl w.heap.size 22 jj (.slice none 0 0) 1 24 Try.underlying24 HJJ.out HZ0.out HZ1.out HZ2.out rfl (by decide) (.slice av j cv) j vs rfl (show (w2.alloc (.cells #[.slice (some ⟨g2, 0, none⟩) r.length c2] 22)).ownsRow w.heap.size 22 1 (.slice av j cv) j vs from (by have := (hl2.below hb2).oa; rw [HLT.out] at this; exact this.alloc _)) ⟨w2.heap.size, 0, none⟩ 1 1 [.slice (some ⟨g2, 0, none⟩) r.length c2] rfl rfl (cell_one_new _ _ _) (by simp [Value.oneCell']) (by unfold maxLen; omega) (by omega) (by simp; omega) ?_; intro v6 w6 ho6 hg6 _ _; obtain ⟨g6, c6, rfl, _, _⟩ := owns_pos ho6 (by omega)))
        refine ⟨⟨i + 1, j + 1, by omega, by omega, by go_num, hide ⟨fun j' hj' => ?_, HNX.out, ⟨vs ++ [.slice (some ⟨g2, 0, none⟩) r.length c2], ?_⟩, ?_⟩⟩, by simp [intOf]; omega⟩
        · by_cases e : j' = j
          · subst e; omega
          · have := HQ1.out j' (by omega); omega
        · rw [HTK.out]
          refine hl2.addRow hsz hb2 how2 ?_ hg6
          rw [HLT.out]
          exact ho6
        · exact grown_alloc ((HBW.out qa).trans (hb2.mono hsz)) (by omega) hg6 (fun q hq => ((HLO.out qa).oa.lt q hq).1)
      · have HFN : Hid (Calls Try.prog 20 #[.slice ao n cap, .int .i64 (i : Int)] wr fun e w' => e = .returned (.bool false) ∧ ∃ q, w' = wr.drewN q) := by
          by_cases hneg : lv.getD i 0 < 0
          · exact rfirst_neg hrow hin hneg
          · obtain ⟨j', m, h1, h2, h3⟩ := HR.out.cover i (by rw [HL.out]; exact hin) (show decide (0 ≤ lv.getD i 0) = true from decide_eq_true (by omega))
            by_cases hm0 : m = 0
            · exfalso
              subst hm0
              have e : Rn.fst rs j' = i := h3
              by_cases c1 : j' < j
              · have := q1 j' c1; omega
              · by_cases c2 : j' = j
                · subst c2; exact hyes ⟨h1, e⟩
                · have h4 := Rn.lst_fst HR.out j' j (by omega) h1
                  have h5 := (Rn.run_le HR.out (show j < rs.length by omega) (HR.out.pos j (by omega))).2
                  have e' : (Rn.rn rs j).getD 0 0 = Rn.fst rs j := rfl
                  have h6 := q2 (by omega)
                  omega
            · obtain ⟨m', rfl⟩ : ∃ m', m = m' + 1 := ⟨m - 1, by omega⟩
              rw [← h3]
              exact rfirst_in hrow hn HR.out h1 h2
        rw [hlt] at hlo ⊢
        have HE := hide (show ∀ q, ((∀ j', j' < j → Rn.fst rs j' < i + 1) ∧ (j < rs.length → i + 1 ≤ Rn.fst rs j) ∧ (∃ vs, LO w.heap.size (wr.drewN q) (.slice av j cv) vs (rs.take j)) ∧ Below w.heap.size w (wr.drewN q)) from fun q => ⟨fun j' h => by have := q1 j' h; omega, fun h => by have h1 := q2 h; by_cases e : Rn.fst rs j = i; exact absurd ⟨h, e⟩ hyes; omega, ⟨vs, hlo.below (below_drewN wr q)⟩, KO.on hbw (below_drewN wr q)⟩)
        clear hq q1 q2 hlo hbw hrow hyes hlt
        go_wp2_with (go_at_call 20; refine HFN.out.mono ?_; rintro e w1 ⟨rfl, qa, rfl⟩)
        refine ⟨⟨i + 1, j, by omega, by omega, by go_num, hide (HE.out qa)⟩, by simp [intOf]; omega⟩
    · obtain rfl : i = n := by omega
      have hne : ¬ ((i : Int) < (i : Int)) := by omega
      have hje : j = rs.length := by
        by_cases e : j < rs.length
        · have h1 := q2 e
          have h2 := (Rn.fst_kept HR.out e).1
          rw [HL.out] at h2
          omega
        · omega
      rw [hlt] at hlo ⊢
      have HE := hide (show ∃ vs, LO w.heap.size wr (.slice av j cv) vs rs from ⟨vs, by have := hlo; rw [hje, List.take_length] at this; rw [hje]; exact this⟩)
      clear hq q1 q2 hlo hje hlt
      go_wp2
      go_ret
      exact ⟨_, rfl, HE.out, hbw⟩
theorem same8_yes (a0 a1 : Option Addr) (N c0 c1 : Nat) (rs : List (List Nat)) (w : World) (h0 : LL w a0 N c0 rs) (h1 : LL w a1 N c1 rs) (hN : N ≤ 5000000) :
    Calls Try.prog 12 #[.slice a0 N c0, .slice a1 N c1] w fun e w' => e = .returned (.bool true) ∧ ∃ k, w' = w.drewN k := by
  have H0 := hide h0
  have H1 := hide h1
  clear h0 h1
  go_enter Try.func12, Try.ntmps12
  go_wp2
  go_loopw [13] (fun i wr => ∃ k nq : Nat, k ≤ N ∧ i = .int .i64 (k : Int) ∧ wr = w.drewN nq) (fun i _ => N - (intOf i).toNat)
  case atStart => exact ⟨0, 0, Nat.zero_le _, rfl, rfl⟩
  case round =>
    obtain ⟨k, nq, hk, rfl, rfl⟩ := hrel
    by_cases hlt : k < N
    · obtain ⟨W, hW⟩ : ∃ W, w.drewN nq = W := ⟨_, rfl⟩
      rw [hW]
      obtain ⟨g, gj, cj, rfl, _, d0, r0⟩ := (H0.out.below (below_drewN w nq)).at' k hlt
      obtain ⟨g', gj', cj', rfl, _, d1, r1⟩ := (H1.out.below (below_drewN w nq)).at' k hlt
      rw [hW] at d0 d1 r0 r1
      have HI := hide (fun q => ints_yes _ _ _ _ _ _ (W.drewN q) (r0.below (below_drewN W q)) (r1.below (below_drewN W q)))
      have hlt' : (k : Int) < (N : Int) := by omega
      have HW := hide hW
      generalize (Rn.rn rs k).length = m at *
      clear r0 r1 hW
      go_wp2
      go_quiet (first | (go_at_call 13; exact Calls.quiet_of (HI.out _)))
      go_wp2
      go_roundw
      case rel => exact ⟨k + 1, _, by omega, by go_num, by rw [← HW.out, World.drewN_drewN]⟩
      case measure => simp [intOf]; omega
    · obtain rfl : k = N := by omega
      have hne : ¬ ((k : Int) < (k : Int)) := by omega
      go_wp2
      go_ret
      exact ⟨rfl, _, rfl⟩
end Go.Proofs.Ythohbiklnknofaa
