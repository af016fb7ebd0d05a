/- All stretches of a level and above turned about; the visual order. -/
import Derived.Test.YtmcbldllbnjipaaOv
namespace Go.Proofs.Ytmcbldllbnjipaa
open Go.RowKit
set_option linter.unusedVariables false
set_option maxHeartbeats 1000000
set_option maxRecDepth 100000
namespace Od
theorem fl_all {p : Nat → Bool} (R : List Nat) : ∀ (M acc : List Nat), (∀ z ∈ M, p z = true) → fl p acc (M ++ R) = fl p (M.reverse ++ acc) R
  | [], acc, _ => rfl
  | x :: M, acc, h => by
    rw [List.cons_append, fl, if_pos (h x List.mem_cons_self), fl_all R M (x :: acc) fun z hz => h z (List.mem_cons_of_mem _ hz)]
    simp
/-- How far a list is turned about behind the place b. -/
structure TS (p : Nat → Bool) (P Q : List Nat) (b : Nat) : Prop where
  ex : ∃ D R, Q = D ++ R ∧ fl p [] P = D ++ fl p [] R ∧ (b = D.length ∨ (R = [] ∧ D.length ≤ b))
theorem TS.start (p : Nat → Bool) (P : List Nat) : TS p P P 0 := ⟨⟨[], P, rfl, rfl, .inl rfl⟩⟩
theorem TS.done {p : Nat → Bool} {P Q : List Nat} {b : Nat} (h : TS p P Q b) (hb : Q.length ≤ b) : Q = fl p [] P := by
  obtain ⟨D, R, rfl, e, h3⟩ := h.ex
  have : R = [] := by
    rcases h3 with h3 | h3
    · rw [List.length_append] at hb
      exact List.length_eq_zero_iff.1 (by omega)
    · exact h3.1
  subst this
  rw [e]; rfl
theorem TS.step {p : Nat → Bool} {P Q : List Nat} {b t : Nat} (h : TS p P Q b) (hb : b + t ≤ Q.length) (ht : ∀ i, i < t → p (Q.getD (b + i) 0) = true) (hs : b + t < Q.length → p (Q.getD (b + t) 0) = false) (hb0 : b < Q.length) :
    ∃ Q2, TS p P Q2 (b + t + 1) ∧ Z Q2 = RV (Z Q) b t t ∧ Q2.Perm Q := by
  obtain ⟨D, R, rfl, e, h3⟩ := h.ex
  have hbD : b = D.length := by
    rcases h3 with h3 | ⟨h3, h4⟩
    · exact h3
    · subst h3; rw [List.append_nil] at hb0; omega
  subst hbD
  rw [List.length_append] at hb hb0 hs
  have hat : ∀ i, (D ++ R).getD (D.length + i) 0 = R.getD i 0 := fun i => by simp [List.getD, List.getElem?_append_right]
  have hR : R = R.take t ++ R.drop t := (List.take_append_drop t R).symm
  have hlt : (R.take t).length = t := by rw [List.length_take]; omega
  have hall : ∀ z ∈ R.take t, p z = true := by
    intro z hz
    obtain ⟨i, hi, e1⟩ := List.getElem_of_mem hz
    rw [hlt] at hi
    have := ht i hi
    rw [hat] at this
    rw [List.getElem_take] at e1
    rw [← e1]
    simpa [List.getD, show i < R.length by omega] using this
  have hz : Z (D ++ ((R.take t).reverse ++ R.drop t)) = RV (Z (D ++ R)) D.length t t := by
    have h1 := RV_parts (Z D) (Z (R.take t)) (Z (R.drop t))
    rw [Z_len, Z_len, hlt] at h1
    have h2 : Z D ++ (Z (R.take t) ++ Z (R.drop t)) = Z (D ++ R) := by rw [hR]; simp [Z]
    rw [h2] at h1
    rw [h1]
    simp [Z]
  have hfl : fl p [] R = fl p (R.take t).reverse (R.drop t) := by
    have h1 := fl_all (p := p) (R.drop t) (R.take t) [] hall
    rw [List.take_append_drop, List.append_nil] at h1
    exact h1
  have hperm : (D ++ ((R.take t).reverse ++ R.drop t)).Perm (D ++ R) := by
    have h1 : ((R.take t).reverse ++ R.drop t).Perm (R.take t ++ R.drop t) := List.Perm.append_right _ (List.reverse_perm _)
    rw [List.take_append_drop] at h1
    exact List.Perm.append_left D h1
  refine ⟨D ++ ((R.take t).reverse ++ R.drop t), ?_, hz, hperm⟩
  cases hd : R.drop t with
  | nil =>
    refine ⟨⟨D ++ (R.take t).reverse, [], by simp, ?_, .inr ⟨rfl, ?_⟩⟩⟩
    · rw [e, hfl, hd]; simp [fl]
    · rw [List.length_append, List.length_reverse, hlt]; omega
  | cons x R2 =>
    have hlen : (R.drop t).length = R2.length + 1 := by rw [hd]; rfl
    rw [List.length_drop] at hlen
    have hx : p x = false := by
      have h1 := hs (by omega)
      rw [hat] at h1
      have h2 : R.getD t 0 = x := by
        have : (R.drop t)[0]? = some x := by rw [hd]; rfl
        rw [List.getElem?_drop, Nat.add_zero] at this
        simp [List.getD, this]
      rw [h2] at h1; exact h1
    refine ⟨⟨D ++ ((R.take t).reverse ++ [x]), R2, by simp, ?_, .inl ?_⟩⟩
    · rw [e, hfl, hd, fl, if_neg (by rw [hx]; exact Bool.false_ne_true)]; simp
    · rw [List.length_append, List.length_append, List.length_reverse, hlt]; simp; omega
end Od
theorem add_zero0 (g b : Nat) : (⟨g, 0, none⟩ : Addr).add b = ⟨g, b, none⟩ := by unfold Addr.add; split <;> simp_all
theorem oturn_any (n N cl : Nat) (al : Option Addr) (v : Value) (lv : List Int) (k : Int) (P : List Nat) (w0 w : World) (hl : Row .i64 w0 al N cl lv) (hb : KO w0 w) (ho : w.ownsRow w0.heap.size 3 1 v n ((Od.Z P).map (Value.int .i64))) (hP : ∀ x ∈ P, x < N) (hn : n ≤ 35184372087808) :
    Calls Try.prog 26 #[v, .slice al N cl, .int .i64 k] w fun e w' => e = .returned (.tuple #[]) ∧ KO w0 w' ∧ w'.ownsRow w0.heap.size 3 1 v n ((Od.Z (Od.turn lv k P)).map (Value.int .i64)) := by
  have hPn : P.length = n := by have := ho.1; simpa [Od.Z] using this
  by_cases hn0 : n = 0
  · subst hn0
    have hP0 : P = [] := List.length_eq_zero_iff.1 hPn
    subst hP0
    obtain ⟨a, c, rfl, _⟩ := owns_form ho
    have HO := hide ho
    have HB := hide hb
    clear ho hb hl hP hPn
    go_enter Try.func26, Try.ntmps26
    go_wp2
    go_loopw [6, 7] (fun s6 s7 W => s6 = .int .i64 0 ∧ W = w) (fun _ _ _ => 0)
    case atStart => exact ⟨rfl, rfl⟩
    case round =>
      obtain ⟨rfl, rfl⟩ := hrel
      go_wp2
      go_end0
      exact ⟨rfl, HB.out, HO.out⟩
  · obtain ⟨g, cap, rfl, hg, hcap⟩ := owns_pos ho (by omega)
    have HO : Hid (OW w0.heap.size g n cap (Od.Z P) w0 w) := hide ⟨ho, hb⟩
    have HL := hide hl
    have HLn := hide hl.len
    have HPn := hide hPn
    have HP := hide hP
    have hNm : N ≤ maxLen := Nat.le_trans hl.le hl.max
    unfold maxLen at hNm
    obtain ⟨ii, hii, _⟩ := info_parts infoInt
    have HII : Hid (Try.prog.info? 3 = some ii) := hii
    clear hii
    clear ho hb hl hP hPn hg
    go_enter Try.func26, Try.ntmps26
    go_wp2
    go_loopw [6, 7] (fun s6 s7 W => ∃ (b : Nat) (Q : List Nat), s6 = .int .i64 (b : Int) ∧ b ≤ n + 1 ∧ Hid (Od.TS (fun x => decide (k ≤ lv.getD x 0)) P Q b) ∧ Hid (Q.Perm P) ∧ Hid (OW w0.heap.size g n cap (Od.Z Q) w0 W)) (fun s6 _ _ => n + 1 - (intOf s6).toNat)
    case atStart => exact ⟨0, P, rfl, by omega, hide (Od.TS.start _ _), hide (List.Perm.refl _), HO⟩
    case round =>
      obtain ⟨b, Q, rfl, hbn, HT, HQ, hm⟩ := hrel
      have hQn : Q.length = n := by rw [HQ.out.length_eq]; exact HPn.out
      have HQn := hide hQn
      clear hQn
      by_cases hlt : b < n
      · have hin : (b : Int) < (n : Int) := by omega
        go_wp2
        go_loopw [7] (fun s7 W => ∃ e : Nat, s7 = .int .i64 (e : Int) ∧ b ≤ e ∧ e ≤ n ∧ Hid (∀ i, i < e - b → decide (k ≤ lv.getD (Q.getD (b + i) 0) 0) = true) ∧ Hid (OW w0.heap.size g n cap (Od.Z Q) w0 W)) (fun s7 _ => n - (intOf s7).toNat)
        case atStart => exact ⟨b, rfl, Nat.le_refl _, by omega, hide (fun i hi => by omega), hm⟩
        case round =>
          obtain ⟨e, rfl, hbe, hen, hall, hm2⟩ := hrel
          clear hm
          by_cases hlt2 : e < n
          · have hin2 : (e : Int) < (n : Int) := by omega
            have hxm : Q.getD e 0 ∈ Q := by
              have : Q.getD e 0 = Q[e]'(by rw [HQn.out]; exact hlt2) := by simp [List.getD, show e < Q.length by rw [HQn.out]; exact hlt2]
              rw [this]
              exact List.getElem_mem _
            have hxN : Q.getD e 0 < N := HP.out _ (HQ.out.mem_iff.1 hxm)
            have ce := hm2.out.cell hlt2
            rw [Od.Z_at Q (by rw [HQn.out]; exact hlt2)] at ce
            obtain ⟨bl, ol, rfl, hbl, hc⟩ := HL.out.cells (by omega)
            have cl2 : wr.cell? ⟨bl, ol + Q.getD e 0, none⟩ = some (.int .i64 (lv.getD (Q.getD e 0) 0)) := (hm2.out.bel.cell (by exact hbl)).trans (hc _ (by rw [HLn.out]; exact hxN))
            have hin3 : ((Q.getD e 0 : Nat) : Int) < (N : Int) := by omega
            clear hc hxm
            by_cases hk : k ≤ lv.getD (Q.getD e 0) 0
            · have HA : Hid (∀ i, i < e + 1 - b → decide (k ≤ lv.getD (Q.getD (b + i) 0) 0) = true) := hide (fun i hi => by
                by_cases e1 : b + i = e
                · rw [e1]; exact decide_eq_true hk
                · exact hall.out i (by omega))
              clear hall
              generalize lv.getD (Q.getD e 0) 0 = y at cl2 hk
              generalize Q.getD e 0 = x at ce cl2 hxN hin3
              go_wp2
              go_roundw
              case rel => exact ⟨e + 1, by go_num, by omega, by omega, HA, hm2⟩
              case measure => simp [intOf]; omega
            · have hstop : e < n → decide (k ≤ lv.getD (Q.getD e 0) 0) = false := fun _ => decide_eq_false hk
              generalize hy : lv.getD (Q.getD e 0) 0 = y at cl2 hk
              generalize hx : Q.getD e 0 = x at ce cl2 hxN hin3
              clear hy hx
              obtain ⟨Q2, hT2, hZ2, hQ2⟩ := HT.out.step (t := e - b) (by rw [HQn.out]; omega) (fun i hi => hall.out i (by omega)) (by rw [HQn.out, show b + (e - b) = e by omega]; exact hstop) (by rw [HQn.out]; exact hlt)
              rw [show b + (e - b) + 1 = e + 1 by omega] at hT2
              have HT2 := hide hT2
              have HQ2 := hide (hQ2.trans HQ.out)
              have hR := reverse_any w0.heap.size g n cap b (e - b) (cap - b) (tl (some ⟨g, 0, none⟩) cap b) (Od.Z Q) w0 wr hm2.out (by omega) (fun h0 => by unfold tl; rw [if_neg (by omega)]; exact congrArg some (add_zero0 g b)) (by omega)
              rw [← hZ2] at hR
              have HR := hide hR
              have hmid := fun W => run_mid (P := Try.prog) Try.underlying22 HII.out cellsInt (some ⟨g, 0, none⟩) n cap b e (by omega) (by omega) W
              clear hm2 hT2 hZ2 hQ2 hR hstop hall
              go_wp2_with (go_at_call 32; refine HR.out.mono ?_; rintro e2 w2 ⟨rfl, hw2⟩)
              have HM2 := hide hw2
              clear hw2
              go_wp2
              go_roundw
              case rel => exact ⟨e + 1, Q2, by go_num, by omega, HT2, HQ2, HM2⟩
              case measure => simp [intOf]; omega
          · have hstop : e < n → decide (k ≤ lv.getD (Q.getD e 0) 0) = false := fun h => absurd h hlt2
            obtain rfl : n = e := by omega
            have hne2 : ¬ (n : Int) < (n : Int) := by omega
            obtain ⟨Q2, hT2, hZ2, hQ2⟩ := HT.out.step (t := n - b) (by rw [HQn.out]; omega) (fun i hi => hall.out i (by omega)) (by rw [HQn.out, show b + (n - b) = n by omega]; exact hstop) (by rw [HQn.out]; exact hlt)
            rw [show b + (n - b) + 1 = n + 1 by omega] at hT2
            have HT2 := hide hT2
            have HQ2 := hide (hQ2.trans HQ.out)
            have hR := reverse_any w0.heap.size g n cap b (n - b) (cap - b) (tl (some ⟨g, 0, none⟩) cap b) (Od.Z Q) w0 wr hm2.out (by omega) (fun h0 => by unfold tl; rw [if_neg (by omega)]; exact congrArg some (add_zero0 g b)) (by omega)
            rw [← hZ2] at hR
            have HR := hide hR
            have hmid := fun W => run_mid (P := Try.prog) Try.underlying22 HII.out cellsInt (some ⟨g, 0, none⟩) n cap b n (by omega) (by omega) W
            clear hm2 hT2 hZ2 hQ2 hR hstop hall
            go_wp2_with (go_at_call 32; refine HR.out.mono ?_; rintro e2 w2 ⟨rfl, hw2⟩)
            have HM2 := hide hw2
            clear hw2
            go_wp2
            go_roundw
            case rel => exact ⟨n + 1, Q2, by go_num, by omega, HT2, HQ2, HM2⟩
            case measure => simp [intOf]; omega
      · have HD := hide (HT.out.done (by rw [HQn.out]; omega))
        have HM := hide (show OW w0.heap.size g n cap (Od.Z (Od.turn lv k P)) w0 wr from by
          have := hm.out
          rw [HD.out] at this
          exact this)
        have hne : ¬ (b : Int) < (n : Int) := by omega
        clear hm
        go_wp2
        go_end0
        exact ⟨rfl, HM.out.bel, HM.out.own⟩
end Go.Proofs.Ytmcbldllbnjipaa
