/- The contracts of the document's Decode and Cut. -/
import Derived.Test.YtkcalmighgdojaaAt
import Derived.Test.YtkcalmighgdojaaCutm
namespace Go.Proofs.Ytkcalmighgdojaa
open Go.RowKit
set_option linter.unusedVariables false
theorem Utf.Part.more {xs : List Int} {k e : Nat} (h : Utf.Part xs k e) (h0 : (Utf.read (xs.drop e)).2 ≠ 0) : k < (Utf.dec xs).1.length := by
  have h2 := h.2.1
  rw [Utf.dec_step h0] at h2
  have := congrArg List.length h2
  simp at this
  omega
theorem Utf.Part.none {xs : List Int} {k e : Nat} (h : Utf.Part xs k e) (h0 : (Utf.read (xs.drop e)).2 = 0) : (Utf.dec xs).2 = e := by
  have h2 := h.2.2
  rw [Utf.dec_stop h0] at h2
  simpa using h2
theorem Utf.Part.all {xs : List Int} {k e : Nat} (h : Utf.Part xs k e) (he : e = xs.length) : (Utf.dec xs).1.take k = (Utf.dec xs).1 ∧ (Utf.dec xs).2 = e := by
  have hz : (Utf.read (xs.drop e)).2 = 0 := by rw [List.drop_of_length_le (by omega)]; rfl
  refine ⟨?_, h.none hz⟩
  have h2 := h.2.1
  rw [Utf.dec_stop hz] at h2
  have := List.take_append_drop k (Utf.dec xs).1
  rw [h2] at this
  simpa using this
theorem owns_below {w w' : World} {base e size n : Nat} {v : Value} {xs : List Value} (h : w.ownsRow base e size v n xs) (hb : Below w.heap.size w w') : w'.ownsRow base e size v n xs := by
  refine ⟨h.1, ?_⟩
  rcases h.2 with hn | ⟨g, cap, cur, rfl, hbs, hg, rest⟩
  · exact .inl hn
  · exact .inr ⟨g, cap, cur, rfl, hbs, (hb.block g (Array.getElem?_eq_some_iff.1 hg).1).trans hg, rest⟩
theorem one_close {base k : Nat} {v v' : Value} {D : List Int} {x : Int} {w w1 w2 : World} (hb : Below base w1 w) (hB : base ≤ w.heap.size) (hk : k < D.length) (hx : x = D.getD k 0) (hown : w.ownsRow base 21 1 v k ((D.take k).map (Value.int .i32)))
    (h1 : w2.ownsRow base 21 1 v' (k + 1) ((D.take k).map (Value.int .i32) ++ [.int .i32 x])) (hg : (w.alloc (.cells #[.int .i32 x] 21)).grownBy w2 v.ownBlock) :
    w2.ownsRow base 21 1 v' (k + 1) ((D.take (k + 1)).map (Value.int .i32)) ∧ Below base w1 w2 := by
  subst hx
  rw [Utf.take_snoc D k hk, List.map_append]
  exact ⟨h1, hb.trans (((Below.refl base w).alloc hB _).grown hg (by simp; omega) (fun k hk => (hown.lt k hk).1))⟩
set_option maxHeartbeats 2000000 in
theorem rdecode_any (ao : Option Addr) (n cap : Nat) (xs : List Int) (w : World) (h : Row .u8 w ao n cap xs) (hb : Bytes xs) (hsz : n ≤ 35184372088831) :
    Calls Try.prog 16 #[.slice ao n cap] w fun e w' => (((Utf.dec xs).2 < n ∧ e = .returned (.tuple #[.slice none 0 0, .int .i64 (Utf.dec xs).2, .int .i64 10])) ∨
      ((Utf.dec xs).2 = n ∧ ∃ v, e = .returned (.tuple #[v, .int .i64 0, .int .i64 0]) ∧ w'.ownsRow w.heap.size 21 1 v (Utf.dec xs).1.length ((Utf.dec xs).1.map (Value.int .i32)))) ∧ Below w.heap.size w w' := by
  have hml := Utf.dec_le xs.length xs (Nat.le_refl _)
  have hle := h.le
  have HMX := hide h.max
  have hmx := h.max
  unfold maxLen at hmx
  have HL := hide h.len
  have HR := hide h
  have HB := hide hb
  have HML := hide hml
  clear h hb hml
  obtain ⟨i21, hi, hz0, hz1, hz2⟩ := info_parts Try.info21
  have HI : Hid (Try.prog.info? 21 = some i21) := hi
  have HZ0 := hide hz0
  have HZ1 := hide hz1
  have HZ2 := hide hz2
  clear hi hz0 hz1 hz2
  go_enter Try.func16, Try.ntmps16
  go_wp2
  go_loopw [5, 6] (fun v a wr => ∃ k e : Nat, e ≤ n ∧ k ≤ e ∧ a = .int .i64 e ∧ Hid (Utf.Part xs k e) ∧ Hid (wr.ownsRow w.heap.size 21 1 v k (((Utf.dec xs).1.take k).map (Value.int .i32))) ∧ Hid (Below w.heap.size w wr)) (fun _ a _ => n - (intOf a).toNat)
  case atStart => exact ⟨0, 0, Nat.zero_le _, Nat.le_refl _, rfl, Utf.Part.start xs, World.ownsRow_nil _ _ _ _, Below.refl _ _⟩
  case round =>
    obtain ⟨k, e, he, hke, rfl, hp, hown, hbw⟩ := hrel
    by_cases hlt : e < n
    · obtain ⟨b, off, rfl, hbl, hc⟩ := HR.out.cells (by omega)
      have hrd := hide (at_any b off n cap e xs wr HMX.out hle HL.out hlt (Nat.lt_of_lt_of_le hbl hbw.out.size) (fun i hi => (hbw.out.cell (by exact hbl)).trans (hc i hi)) HB.out (by omega))
      have hbd := Utf.read_bounds (xs.drop e)
      rw [List.length_drop, HL.out] at hbd
      by_cases hz : (Utf.read (xs.drop e)).2 = 0
      · have HN := hide (hp.out.none hz)
        rcases hR : Utf.read (xs.drop e) with ⟨v, s⟩
        rw [hR] at hrd hz
        simp only at hz
        subst hz
        clear hR hown hc hbd
        go_wp2_with (go_at_call 25; refine hrd.out.mono ?_; rintro e w' ⟨rfl, hb2⟩)
        go_ret3
        refine ⟨.inl ⟨by rw [HN.out]; exact hlt, by rw [HN.out]; rfl⟩, hbw.out.trans (hb2.mono hbw.out.size)⟩
      · have hmore := hp.out.more hz
        obtain ⟨s0, s1, s2, s3⟩ := hp.out.step hmore
        have HS1 := hide s1
        have HS2 := hide s2
        have HMO := hide hmore
        rcases hR : Utf.read (xs.drop e) with ⟨v, s⟩
        rw [hR] at hrd hz HS1 HS2 hbd
        simp only at hz hbd
        have hz' : (s == 0) = false := by simp [hz]
        obtain ⟨hbd1, hbd2, hbd3, _⟩ := hbd
        clear hR hc s0 s1 s2 s3 hmore hp
        go_wp2_with fail
        refine hrd.out.mono ?_
        rintro e' w2 ⟨rfl, hb2⟩
        have HO2 := hide (owns_below hown.out hb2)
        have HB2 := hide (hbw.out.trans (hb2.mono hbw.out.size))
        clear hown hbw hb2
        go_wp2_with (first | (at_builtin; refine wpList_append_own _ rfl _ _ 26 rfl w.heap.size 21 i21 (.int .i32 0) 1 4 Try.underlying26 HI.out HZ0.out HZ1.out HZ2.out rfl (by decide) _ _ _ rfl (HO2.out.alloc _) ⟨w2.heap.size, 0, none⟩ 1 1 [.int .i32 v] rfl rfl ?c1 ?c2 ?c3 ?c4 ?c5 ?_))
        case c1 => exact World.news_of_block (heap_alloc_new w2 _)
        case c2 => exact ints_oneCell .i32 [v]
        case c3 => unfold maxLen; omega
        case c4 => omega
        case c5 => have := HB2.out.size; simp; omega
        intro v3 w3 hown3 hgrow3 _
        rw [← List.map_take] at hown3
        have HX := hide (one_close HB2.out HB2.out.size HMO.out HS1.out HO2.out hown3 hgrow3)
        clear hown3 hgrow3
        go_wp2
        go_roundw
        case rel => exact ⟨k + 1, e + s.toNat, by omega, by omega, by go_num, HS2, HX.out.1, HX.out.2⟩
        case measure => simp [intOf]; omega
    · obtain ⟨h1, h2⟩ := hp.out.all (by have := HL.out; omega)
      rw [h1] at hown
      have hkl : k = (Utf.dec xs).1.length := by have := hown.out.1; simp at this; omega
      rw [hkl] at hown
      have hen : e = n := by omega
      have HE := hide (h2.trans hen)
      clear h1 h2 hkl hen
      go_wp2
      go_ret3
      exact ⟨.inr ⟨HE.out, _, rfl, hown.out⟩, hbw.out⟩
/-- What the loop of the document's Cut knows: the greatest place at which a text ends, up to m. -/
def Best (xs : List Int) (m : Int) (e best : Nat) : Prop := e ≤ xs.length ∧ best ≤ e ∧ ((e : Int) ≤ m → best = e) ∧ (Utf.dec (xs.take m.toNat)).2 = (if (e : Int) ≤ m then e + (Utf.dec ((xs.drop e).take (m.toNat - e))).2 else best)
theorem Best.start (xs : List Int) (m : Int) : Best xs m 0 0 := by
  refine ⟨Nat.zero_le _, Nat.le_refl _, fun _ => rfl, ?_⟩
  split
  · simp
  · rw [show m.toNat = 0 from by omega]; simp [Utf.dec_nil]
theorem Best.stop {xs : List Int} {m : Int} {e best : Nat} (hb : Bytes xs) (h : Best xs m e best) (h0 : (Utf.read (xs.drop e)).2 = 0) : (Utf.dec (xs.take m.toNat)).2 = best := by
  obtain ⟨h1, h2, h3, h4⟩ := h
  rw [h4]
  split
  · rename_i hle
    rw [Utf.dec_stop (Utf.read_cut (hb.drop e) (.inl h0)), h3 hle]
    rfl
  · rfl
theorem Best.step {xs : List Int} {m : Int} {e best : Nat} (hb : Bytes xs) (h : Best xs m e best) (h0 : (Utf.read (xs.drop e)).2 ≠ 0) :
    Best xs m (e + (Utf.read (xs.drop e)).2.toNat) (if ((e + (Utf.read (xs.drop e)).2.toNat : Nat) : Int) ≤ m then e + (Utf.read (xs.drop e)).2.toNat else best) := by
  obtain ⟨h1, h2, h3, h4⟩ := h
  have hbd := Utf.read_bounds (xs.drop e)
  rw [List.length_drop] at hbd
  by_cases hm : ((e + (Utf.read (xs.drop e)).2.toNat : Nat) : Int) ≤ m
  · rw [if_pos hm]
    refine ⟨by omega, Nat.le_refl _, fun _ => rfl, ?_⟩
    rw [if_pos hm, h4, if_pos (by omega)]
    have hr := Utf.read_take (q := m.toNat - e) (hb.drop e) h0 (by omega)
    rw [Utf.dec_step (by rw [hr]; exact h0), hr]
    simp only
    rw [List.drop_take, List.drop_drop, show m.toNat - e - (Utf.read (xs.drop e)).2.toNat = m.toNat - (e + (Utf.read (xs.drop e)).2.toNat) from by omega]
    omega
  · rw [if_neg hm]
    refine ⟨by omega, by omega, fun h => absurd h hm, ?_⟩
    rw [if_neg hm, h4]
    split
    · rename_i hle
      rw [Utf.dec_stop (Utf.read_cut (hb.drop e) (.inr (by omega))), h3 hle]
      rfl
    · rfl
set_option maxHeartbeats 2000000 in
theorem rcut_any (ao : Option Addr) (n cap : Nat) (m : Int) (xs : List Int) (w : World) (h : Row .u8 w ao n cap xs) (hb : Bytes xs) (hsz : n ≤ 140737488355328) :
    Calls Try.prog 19 #[.slice ao n cap, .int .i64 m] w fun e w' => e = .returned (.int .i64 (Utf.dec (xs.take m.toNat)).2) ∧ Below w.heap.size w w' := by
  have hle := h.le
  have HMX := hide h.max
  have hmx := h.max
  unfold maxLen at hmx
  have HL := hide h.len
  have HR := hide h
  have HB := hide hb
  clear h hb
  go_enter Try.func19, Try.ntmps19
  go_wp2
  go_loopw [5, 6] (fun t a wr => ∃ e best : Nat, e ≤ n ∧ best ≤ e ∧ a = .int .i64 e ∧ t = .int .i64 best ∧ Hid (Best xs m e best) ∧ Hid (Below w.heap.size w wr)) (fun _ a _ => n - (intOf a).toNat)
  case atStart => exact ⟨0, 0, Nat.zero_le _, Nat.le_refl _, rfl, rfl, Best.start xs m, Below.refl _ _⟩
  case round =>
    obtain ⟨e, best, he, hbe, rfl, rfl, hp, hbw⟩ := hrel
    by_cases hlt : e < n
    · obtain ⟨b, off, rfl, hbl, hc⟩ := HR.out.cells (by omega)
      have hrd := hide (at_any b off n cap e xs wr HMX.out hle HL.out hlt (Nat.lt_of_lt_of_le hbl hbw.out.size) (fun i hi => (hbw.out.cell (by exact hbl)).trans (hc i hi)) HB.out (by omega))
      have hbd := Utf.read_bounds (xs.drop e)
      rw [List.length_drop, HL.out] at hbd
      by_cases hz : (Utf.read (xs.drop e)).2 = 0
      · have HN := hide (hp.out.stop HB.out hz)
        rcases hR : Utf.read (xs.drop e) with ⟨v, s⟩
        rw [hR] at hrd hz
        simp only at hz
        subst hz
        clear hR hc hbd
        go_wp2_with (go_at_call 25; refine hrd.out.mono ?_; rintro e w' ⟨rfl, hb2⟩)
        go_ret
        rw [HN.out]
        exact ⟨rfl, hbw.out.trans (hb2.mono hbw.out.size)⟩
      · have HN := hide (hp.out.step HB.out hz)
        rcases hR : Utf.read (xs.drop e) with ⟨v, s⟩
        rw [hR] at hrd hz HN hbd
        simp only at hz hbd
        have hz' : (s == 0) = false := by simp [hz]
        obtain ⟨hbd1, hbd2, hbd3, _⟩ := hbd
        clear hR hc hp
        obtain ⟨q, rfl⟩ := Int.eq_ofNat_of_zero_le hbd1
        by_cases hm : (e : Int) + (q : Int) ≤ m
        · rw [if_pos (by omega)] at HN
          go_wp2_with (go_at_call 25; refine hrd.out.mono ?_; rintro e' w' ⟨rfl, hb2⟩)
          go_roundw
          case rel => exact ⟨e + q, e + q, by omega, by omega, by go_num, by go_num, HN, hbw.out.trans (hb2.mono hbw.out.size)⟩
          case measure => simp [intOf]; omega
        · rw [if_neg (by omega)] at HN
          go_wp2_with (go_at_call 25; refine hrd.out.mono ?_; rintro e' w' ⟨rfl, hb2⟩)
          go_roundw
          case rel => exact ⟨e + q, best, by omega, by omega, by go_num, rfl, HN, hbw.out.trans (hb2.mono hbw.out.size)⟩
          case measure => simp [intOf]; omega
    · have hz : (Utf.read (xs.drop e)).2 = 0 := by rw [List.drop_of_length_le (by have := HL.out; omega)]; rfl
      have HN := hide (hp.out.stop HB.out hz)
      clear hz
      go_wp2
      go_ret
      rw [HN.out]
      exact ⟨rfl, hbw.out⟩
end Go.Proofs.Ytkcalmighgdojaa
