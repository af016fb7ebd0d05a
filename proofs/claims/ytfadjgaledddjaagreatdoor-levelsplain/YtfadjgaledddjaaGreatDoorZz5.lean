import Derived.Test.YtfadjgaledddjaaGreatDoorZm2
import Derived.Test.YtfadjgaledddjaaGreatDoorZp
import Derived.Test.YtfadjgaledddjaaGreatDoorZq
/- Texts of one direction, with blanks and signs: plain mathematics. -/
namespace Go.Proofs.YtfadjgaledddjaaGreatDoor.Rn
set_option linter.unusedVariables false
open Ex (lev LV TY rm Formed)
open Go.RowKit
/-- The letters; their direction; the level. -/
def fr : Bool → List Int
  | true => [1488, 32, 46, 33, 44, 1575, 43, 1456]
  | false => [97, 32, 46, 33, 44, 65, 43, 768]
def dp : Bool → Int
  | true => 2
  | false => 1
def lp : Bool → Int
  | true => 1
  | false => 0
instance (p x : Int) : Decidable (We.P1 p x) := by unfold We.P1; exact inferInstance
theorem fr_known (r : Bool) : ∀ x ∈ fr r, We.P1 (dp r) (Ucd.cls x) ∧ (1 ≤ Ucd.cls x ∧ Ucd.cls x ≤ 23 ∧ ¬ Ucd.cls x = 11) ∧ Ex.em (Ucd.cls x) = false ∧ Iso.st (Ucd.cls x) = false ∧ rm (Ucd.cls x) = false ∧ (Ucd.side x).1 = 0 ∧ (0 ≤ x ∧ x ≤ 2000) := by
  cases r
  · decide +kernel
  · decide +kernel
theorem fr_at (r : Bool) {j : Nat} (hj : j < 8) : (fr r).getD j 0 ∈ fr r := by
  have hl : (fr r).length = 8 := by cases r <;> rfl
  rw [show (fr r).getD j 0 = (fr r)[j]'(by omega) from by simp [List.getD, hl, hj]]
  exact List.getElem_mem _
section
variable {r : Bool} {t : List Int}
theorem all_at (h : ∀ x ∈ t, x ∈ fr r) {i : Nat} (hi : i < t.length) : t.getD i 0 ∈ fr r := by
  rw [show t.getD i 0 = t[i] from by simp [List.getD, hi]]
  exact h _ (List.getElem_mem _)
theorem fr_formed (h : ∀ x ∈ t, x ∈ fr r) : Formed (cl t) := by
  intro i hi
  rw [cl_len] at hi
  rw [cl_at t hi]
  have := fr_known r _ (all_at h hi)
  exact ⟨this.2.1.1, this.2.1.2.1, fun e => absurd e this.2.1.2.2⟩
theorem fr_pl (h : ∀ x ∈ t, x ∈ fr r) : ∀ k, k ≤ t.length → Ex.pl (cl t) k = true := by
  intro k
  induction k with
  | zero => intro _; rfl
  | succ k ih =>
    intro hk
    have := fr_known r _ (all_at h (show k < t.length by omega))
    unfold Ex.pl
    rw [ih (by omega), cl_at t (by omega), this.2.2.1, this.2.2.2.1]
    rfl
theorem fr_none (h : ∀ x ∈ t, x ∈ fr r) (ps : List Nat) (T : List Int) : Br.PP (pk t ps) T = [] := by
  rw [List.eq_nil_iff_forall_not_mem]
  intro q hq
  obtain ⟨_, _, h3, _, _⟩ := Br.F_p _ (Br.mem_PS.1 hq)
  have hs : ∀ x, x ∈ fr r ∨ x = 0 → (Ucd.side x).1 = 0 := fun x hx => by
    rcases hx with hx | rfl
    · exact (fr_known r x hx).2.2.2.2.2.1
    · decide +kernel
  have hm : (pk t ps).getD q.1 0 ∈ fr r ∨ (pk t ps).getD q.1 0 = 0 := by
    by_cases hq1 : q.1 < ps.length
    · rw [pk_at _ _ hq1]
      generalize ps.getD q.1 0 = z at *
      by_cases hp : z < t.length
      · exact .inl (all_at h hp)
      · exact .inr (by simp [List.getD, List.getElem?_eq_none (Nat.not_lt.1 hp)])
    · exact .inr (by simp [List.getD, List.getElem?_eq_none (show (pk t ps).length ≤ q.1 by rw [pk_len]; omega)])
  have h0 := hs _ hm
  by_cases h14 : T.getD q.1 0 = 14
  · rw [Br.kd_on h14, h0] at h3; exact absurd h3 (by decide)
  · rw [Br.kd_not h14] at h3; exact absurd h3 (by decide)
theorem plain_PA (h : ∀ x ∈ t, x ∈ fr r) {u : List Int} (hu : t = (fr r).getD 0 0 :: u) (hn : t.length ≤ 4096) {base : Int} (hb : base = -1 ∨ base = lp r) :
    PA t base (lp r) (VS t (lp r)) 0 ∧ ∀ i, i < t.length → (VS t (lp r)).getD i 0 = lp r := by
  have hF := fr_formed h
  have hlp : lp r = 0 ∨ lp r = 1 := by cases r <;> simp [lp]
  have hbl : bl base t = lp r := by
    unfold bl
    by_cases e : base = -1
    · rw [if_pos e, hu]
      show Iso.bso 0 (Ucd.cls ((fr r).getD 0 0) :: cl u) = lp r
      rw [Iso.bso_cons]
      cases r
      · rw [show Ucd.cls ((fr false).getD 0 0) = 1 by decide +kernel]; rfl
      · rw [show Ucd.cls ((fr true).getD 0 0) = 2 by decide +kernel]; rfl
    · rw [if_neg e]
      exact hb.resolve_left e
  refine ⟨.inr (.inr (.inr ⟨?_, hn, hF, hbl.symm, by rw [hbl], rfl⟩)), fun i hi => ?_⟩
  · unfold BB
    rcases hb with rfl | rfl <;> omega
  · have hc : i < (cl t).length := by rw [cl_len]; exact hi
    rw [VS_at t _ hi]
    refine PV_one (p := dp r) ?_ hF (by rw [cl_len]; exact fr_pl h _ (Nat.le_refl _)) t ?_ (fr_none h) hc ?_
    · cases r
      · exact .inl ⟨rfl, rfl⟩
      · exact .inr ⟨rfl, rfl⟩
    · intro j hj
      rw [cl_len] at hj
      rw [cl_at t hj]
      exact (fr_known r _ (all_at h hj)).1
    · rw [kp_rm hlp hc, cl_at t hi, (fr_known r _ (all_at h hi)).2.2.2.2.1]
      rfl
end
/-- The letter that a number picks; the text of the first k. -/
def fat (r : Bool) (x : Int) : Int := (fr r).getD (wrap64 ((IntKind.u64.wrap x).tmod 8)).toNat 0
def tx (r : Bool) (p : List Int) (k : Nat) : List Int := (fr r).getD 0 0 :: (p.take k).map (fat r)
theorem fat_in (r : Bool) (x : Int) : fat r x ∈ fr r := by
  obtain ⟨k, hk, e⟩ := place_at x 8 (by decide) (by decide)
  unfold fat
  rw [show ((8 : Nat) : Int) = 8 from rfl] at e
  rw [e, Int.toNat_natCast]
  exact fr_at r hk
theorem tx_in (r : Bool) (p : List Int) (k : Nat) : ∀ x ∈ tx r p k, x ∈ fr r := by
  intro x hx
  unfold tx at hx
  rcases List.mem_cons.1 hx with rfl | hx
  · exact fr_at r (by decide)
  · obtain ⟨y, _, rfl⟩ := List.mem_map.1 hx
    exact fat_in r y
theorem tx_succ (r : Bool) (p : List Int) {k : Nat} (hk : k < p.length) : tx r p (k + 1) = tx r p k ++ [fat r (p.getD k 0)] := by
  unfold tx
  rw [List.take_succ_eq_append_getElem hk, List.map_append, show p.getD k 0 = p[k] from by simp [List.getD, hk]]
  rfl
theorem tx_len (r : Bool) (p : List Int) {k : Nat} (hk : k ≤ p.length) : (tx r p k).length = k + 1 := by simp [tx]; omega
end Go.Proofs.YtfadjgaledddjaaGreatDoor.Rn

/- LevelsPlain. -/
namespace Go.Proofs.YtfadjgaledddjaaGreatDoor
open Go.RowKit
set_option linter.unusedVariables false
set_option maxHeartbeats 2000000
set_option maxRecDepth 100000
/-- The text as it grows. -/
structure TG (w0 : World) (v : Value) (n : Nat) (t : List Int) (w : World) : Prop where
  own : w.ownsRow w0.heap.size 21 1 v n (t.map (Value.int .i32))
  bel : Below w0.heap.size w0 w
theorem TG.one {w0 w w' : World} {v v' : Value} {n : Nat} {t : List Int} {x : Int} {o : Obj} (h : TG w0 v n t w) (ho : w'.ownsRow w0.heap.size 21 1 v' (n + 1) (t.map (Value.int .i32) ++ [.int .i32 x])) (hg : (w.alloc o).grownBy w' v.ownBlock) : TG w0 v' (n + 1) (t ++ [x]) w' :=
  ⟨by rw [List.map_append]; exact ho, Below.grown (KO.alloc h.bel o) hg (by simp; have := h.bel.size; omega) (fun j hj => (h.own.lt j hj).1)⟩
theorem LevelsPlain_walk (w : World) (hm : Marks w) (a0 : Option Addr) (n0 c0 : Nat) (p : List Int) (h0 : Row .i64 w a0 n0 c0 p) (f0 : ∀ x ∈ p, (Lit.int .i64 x).wf = true) (b0 : n0 * 8 ≤ 140737488351232) (right : Bool) :
    Calls Tryz.prog 8 #[.slice a0 n0 c0, .bool right] w fun e w' => e = .returned (.bool true) ∧ Below w.heap.size w w' := by
  have HW := hide (works12_any w hm)
  have hln := h0.len
  have HPA := hide (fun W a c k base (hk : KO w W) (hkn : k ≤ n0) (hk4 : k ≤ 400) (h : Row .i32 W a (k + 1) c (Rn.tx right p k)) (hb : base = -1 ∨ base = Rn.lp right) => (show Calls Tryz.prog 10 #[.slice a (k + 1) c, .int .i64 base] W fun e w' => ∃ a1 c1 L, e = .returned (.tuple #[.int .i64 (Rn.lp right), .slice a1 (k + 1) c1, .int .i64 0]) ∧ Row .i64 w' a1 (k + 1) c1 L ∧ KO W w' ∧ ∀ i, i < k + 1 → L.getD i 0 = Rn.lp right from by
    have htl := Rn.tx_len right p (k := k) (by omega)
    obtain ⟨q1, q2⟩ := Rn.plain_PA (r := right) (Rn.tx_in right p k) rfl (by omega) hb
    refine (paragraph_any a (k + 1) c _ base W h (fun x hx => WalkArith.wf_i32 (by have := (Rn.fr_known right x (Rn.tx_in right p k x hx)).2.2.2.2.2.2; omega)) (hm.below hk) (.inl (by omega)) _ _ _ q1).mono ?_
    rintro e w' ⟨a1, c1, rfl, hr, hk2⟩
    rw [Rn.VS_len, htl] at hr ⊢
    exact ⟨a1, c1, _, rfl, hr, hk2, fun i hi => q2 i (by omega)⟩))
  have H0 := hide h0
  have HLN := hide hln
  obtain ⟨ir, hir, hz0, hz1, hz2⟩ := info_parts infoRune12
  have HIR : Hid (Tryz.prog.info? 21 = some ir) := hir
  have HZ0 := hide hz0
  have HZ1 := hide hz1
  have HZ2 := hide hz2
  have HTX := hide (fun k (hk : k < n0) => Rn.tx_succ right p (k := k) (by omega))
  have HFR := hide (fun W (j : Nat) (g : Nat) (h : Row .i32 W (some ⟨g, 0, none⟩) 8 8 (Rn.fr right)) (hj : j < 8) => (show W.cell? ⟨g, j, none⟩ = some (.int .i32 ((Rn.fr right).getD j 0)) from by
    obtain ⟨b, off, e, _, hc⟩ := h.cells (by omega)
    simp only [Option.some.injEq, Addr.mk.injEq, and_true] at e
    obtain ⟨rfl, rfl⟩ := e
    have := hc j (by rw [h.len]; exact hj)
    rw [Nat.zero_add] at this
    exact this))
  clear hm h0 f0 hln hir hz0 hz1 hz2
  cases right
  · go_enter Tryz.func8, Tryz.ntmps8
    go_wp2_with fail
    refine HW.out.mono ?_
    rintro e w1 ⟨rfl, hk1⟩
    have HK1 := hide hk1
    clear hk1 HW
    obtain ⟨W0, hW0⟩ : ∃ W0, w1.alloc (.cells #[.int .i32 97, .int .i32 32, .int .i32 46, .int .i32 33, .int .i32 44, .int .i32 65, .int .i32 43, .int .i32 768] 21) = W0 := ⟨_, rfl⟩
    have hk0 : KO w1 W0 := by rw [← hW0]; exact KO.alloc (KO.refl _) _
    have hrf : Row .i32 W0 (some ⟨w1.heap.size, 0, none⟩) 8 8 (Rn.fr false) := by rw [← hW0]; exact row_lit .i32 w1 [97, 32, 46, 33, 44, 65, 43, 768] 21 (by decide)
    obtain ⟨g, hg⟩ : ∃ g, w1.heap.size = g := ⟨_, rfl⟩
    rw [hg] at hrf
    obtain ⟨f0, hf0⟩ : ∃ f0, (Rn.fr false).getD 0 0 = f0 := ⟨_, rfl⟩
    have ce := HFR.out W0 0 g hrf (by omega)
    rw [hf0] at ce
    have HK0 := hide (KO.on HK1.out hk0)
    have HRF := hide hrf
    have HT0 : Hid (TG W0 (.slice (some ⟨W0.heap.size, 0, none⟩) 1 1) 1 (Rn.tx false p 0) (W0.alloc (.cells #[.int .i32 f0] 21))) := hide ⟨by
      have : (Rn.tx false p 0).map (Value.int .i32) = [.int .i32 f0] := by simp only [Rn.tx, List.take_zero, List.map_nil, List.map_cons, hf0]
      rw [this]
      exact World.ownsRow_lit W0 #[.int .i32 f0] 1 (Nat.le_refl _) (by decide) rfl, KO.alloc (KO.refl _) _⟩
    clear hk0 hrf hf0
    go_wp2
    go_loopw [7, 8] (fun s7 s8 wr => ∃ (k : Nat) (v7 : Value), v7 = s7 ∧ s8 = .int .i64 (k : Int) ∧ k ≤ n0 ∧ k ≤ 400 ∧ Hid (TG W0 v7 (k + 1) (Rn.tx false p k) wr)) (fun _ s8 _ => n0 - (intOf s8).toNat)
    case atStart => exact ⟨0, _, rfl, rfl, Nat.zero_le _, Nat.zero_le _, HT0⟩
    case round =>
      obtain ⟨k, v7, hv7, rfl, hk, hk4, HT⟩ := hrel
      subst hv7
      by_cases hlt : k < n0 ∧ k < 400
      · obtain ⟨hlt, hlt4⟩ := hlt
        have hin : (k : Int) < (n0 : Int) := by omega
        have hin4 : (k : Int) < 400 := by omega
        obtain ⟨b, off, rfl, hbl, hc⟩ := H0.out.cells (by omega)
        have ck := (Below.cell (KO.on HK0.out HT.out.bel) (by exact hbl)).trans (hc k (by rw [HLN.out]; exact hlt))
        obtain ⟨j, hj, ej⟩ := place_at (p.getD k 0) 8 (by decide) (by decide)
        rw [show ((8 : Nat) : Int) = 8 from rfl] at ej
        have cf := HFR.out wr j g (HRF.out.below HT.out.bel) hj
        have HX := hide (HTX.out k hlt)
        have hfat : Rn.fat false (p.getD k 0) = (Rn.fr false).getD j 0 := by unfold Rn.fat; rw [ej, Int.toNat_natCast]
        rw [hfat] at HX
        clear hc hfat
        generalize (Rn.fr false).getD j 0 = y at *
        generalize p.getD k 0 = x at *
        go_wp2_with (at_builtin; refine wpList_append_one wr rfl (.tmp 34) (.tmp 45) 22 rfl W0.heap.size 21 ir _ 4 Tryz.underlying22 HIR.out HZ0.out HZ1.out HZ2.out rfl v7 (k + 1) _ rfl (.int .i32 y) HT.out.own _ rfl rfl rfl (by omega) (by omega) HT.out.bel.size ?_; intro v1 w4 ho1 hg1; have HT1 := hide (HT.out.one ho1 hg1); clear ho1 hg1)
        rw [← HX.out] at HT1
        go_roundw
        case rel => exact ⟨k + 1, _, rfl, by go_num, by omega, by omega, HT1⟩
        case measure => simp [intOf]; omega
      · have hex : ¬ (k : Int) < (n0 : Int) ∨ ((k : Int) < (n0 : Int) ∧ ¬ (k : Int) < 400) := by omega
        obtain ⟨a7, c7, rfl, r7⟩ := row_of_owns HT.out.own
        have HR7 := hide r7
        have HK7 := hide (KO.on HK0.out HT.out.bel)
        clear HT r7 hlt HT0 HTX HFR
        rcases hex with hex | ⟨hex, hex2⟩
        all_goals
          go_wp2
          go_loopw [9] (fun s9 wz => ∃ x : Int, s9 = .int .i64 x ∧ (x = -1 ∨ x = 0 ∨ x = 1) ∧ Hid (KO wr wz)) (fun s9 _ => (8 - intOf s9).toNat)
          case atStart => exact ⟨-1, rfl, .inl rfl, hide (KO.refl _)⟩
          case round =>
            rename World => wz
            obtain ⟨x, rfl, hx, HZ⟩ := hrel
            by_cases hx2 : x = -1 ∨ x = Rn.lp false
            · have hx3 : x ≤ 0 := by rcases hx2 with rfl | rfl <;> decide
              have hxw : x + 1 = 0 ∨ x + 1 = 1 := by rcases hx2 with rfl | rfl <;> decide
              have HP := hide (HPA.out wz a7 c7 k x (KO.on HK7.out HZ.out) hk hk4 (HR7.out.below HZ.out) hx2)
              rw [show Rn.lp false = 0 from rfl] at HP
              clear hx hx2
              go_wp2_with fail
              refine HP.out.mono ?_
              rintro e w5 ⟨a5, c5, L, rfl, hr5, hk5, hv5⟩
              have HR5 := hide hr5
              have HV5 := hide hv5
              have HK5 := hide (KO.on HZ.out hk5)
              clear hr5 hv5 hk5 HP HZ
              go_wp2
              go_loopw [77] (fun s77 wq => ∃ i : Nat, s77 = .int .i64 (i : Int) ∧ i ≤ k + 1 ∧ w5 = wq) (fun s77 _ => k + 1 - (intOf s77).toNat)
              case atStart => exact ⟨0, rfl, Nat.zero_le _, rfl⟩
              case round =>
                obtain ⟨i, rfl, hi, rfl⟩ := hrel
                by_cases hi2 : i < k + 1
                · obtain ⟨b5, o5, rfl, _, hc5⟩ := HR5.out.cells (by omega)
                  have cv := hc5 i (by rw [HR5.out.len]; exact hi2)
                  rw [HV5.out i hi2] at cv
                  have hii : (i : Int) < ((k + 1 : Nat) : Int) := by omega
                  have hii2 : (i : Int) < (k : Int) + 1 := by omega
                  clear hc5
                  go_wp2
                  go_roundw
                  case rel => exact ⟨i + 1, by go_num, by omega, trivial⟩
                  case measure => simp [intOf]; omega
                · obtain rfl : i = k + 1 := by omega
                  have hne2 : ¬ ((k : Int) + 1 < (k : Int) + 1) := by omega
                  go_wp2
                  go_roundw
                  case rel => exact ⟨x + 1, by go_num, by omega, HK5⟩
                  case measure => simp [intOf]; omega
            · have hx4 : ¬ x ≤ 0 := by
                rw [show Rn.lp false = 0 from rfl] at hx2
                omega
              have HE := hide (KO.on HK7.out HZ.out)
              clear hx hx2 HZ
              go_wp2
              go_ret
              exact ⟨rfl, HE.out⟩
  · go_enter Tryz.func8, Tryz.ntmps8
    go_wp2_with fail
    refine HW.out.mono ?_
    rintro e w1 ⟨rfl, hk1⟩
    have HK1 := hide hk1
    clear hk1 HW
    obtain ⟨W00, hW00⟩ : ∃ W0, w1.alloc (.cells #[.int .i32 97, .int .i32 32, .int .i32 46, .int .i32 33, .int .i32 44, .int .i32 65, .int .i32 43, .int .i32 768] 21) = W0 := ⟨_, rfl⟩
    have hk00 : KO w1 W00 := by rw [← hW00]; exact KO.alloc (KO.refl _) _
    obtain ⟨W0, hW0⟩ : ∃ W0, W00.alloc (.cells #[.int .i32 1488, .int .i32 32, .int .i32 46, .int .i32 33, .int .i32 44, .int .i32 1575, .int .i32 43, .int .i32 1456] 21) = W0 := ⟨_, rfl⟩
    have hk0 : KO w1 W0 := by rw [← hW0]; exact KO.alloc hk00 _
    have hrf : Row .i32 W0 (some ⟨W00.heap.size, 0, none⟩) 8 8 (Rn.fr true) := by rw [← hW0]; exact row_lit .i32 W00 [1488, 32, 46, 33, 44, 1575, 43, 1456] 21 (by decide)
    clear hk00
    obtain ⟨g, hg⟩ : ∃ g, W00.heap.size = g := ⟨_, rfl⟩
    rw [hg] at hrf
    obtain ⟨f0, hf0⟩ : ∃ f0, (Rn.fr true).getD 0 0 = f0 := ⟨_, rfl⟩
    have ce := HFR.out W0 0 g hrf (by omega)
    rw [hf0] at ce
    have HK0 := hide (KO.on HK1.out hk0)
    have HRF := hide hrf
    have HT0 : Hid (TG W0 (.slice (some ⟨W0.heap.size, 0, none⟩) 1 1) 1 (Rn.tx true p 0) (W0.alloc (.cells #[.int .i32 f0] 21))) := hide ⟨by
      have : (Rn.tx true p 0).map (Value.int .i32) = [.int .i32 f0] := by simp only [Rn.tx, List.take_zero, List.map_nil, List.map_cons, hf0]
      rw [this]
      exact World.ownsRow_lit W0 #[.int .i32 f0] 1 (Nat.le_refl _) (by decide) rfl, KO.alloc (KO.refl _) _⟩
    clear hk0 hrf hf0
    go_wp2
    go_loopw [7, 8] (fun s7 s8 wr => ∃ (k : Nat) (v7 : Value), v7 = s7 ∧ s8 = .int .i64 (k : Int) ∧ k ≤ n0 ∧ k ≤ 400 ∧ Hid (TG W0 v7 (k + 1) (Rn.tx true p k) wr)) (fun _ s8 _ => n0 - (intOf s8).toNat)
    case atStart => exact ⟨0, _, rfl, rfl, Nat.zero_le _, Nat.zero_le _, HT0⟩
    case round =>
      obtain ⟨k, v7, hv7, rfl, hk, hk4, HT⟩ := hrel
      subst hv7
      by_cases hlt : k < n0 ∧ k < 400
      · obtain ⟨hlt, hlt4⟩ := hlt
        have hin : (k : Int) < (n0 : Int) := by omega
        have hin4 : (k : Int) < 400 := by omega
        obtain ⟨b, off, rfl, hbl, hc⟩ := H0.out.cells (by omega)
        have ck := (Below.cell (KO.on HK0.out HT.out.bel) (by exact hbl)).trans (hc k (by rw [HLN.out]; exact hlt))
        obtain ⟨j, hj, ej⟩ := place_at (p.getD k 0) 8 (by decide) (by decide)
        rw [show ((8 : Nat) : Int) = 8 from rfl] at ej
        have cf := HFR.out wr j g (HRF.out.below HT.out.bel) hj
        have HX := hide (HTX.out k hlt)
        have hfat : Rn.fat true (p.getD k 0) = (Rn.fr true).getD j 0 := by unfold Rn.fat; rw [ej, Int.toNat_natCast]
        rw [hfat] at HX
        clear hc hfat
        generalize (Rn.fr true).getD j 0 = y at *
        generalize p.getD k 0 = x at *
        go_wp2_with (at_builtin; refine wpList_append_one wr rfl (.tmp 34) (.tmp 45) 22 rfl W0.heap.size 21 ir _ 4 Tryz.underlying22 HIR.out HZ0.out HZ1.out HZ2.out rfl v7 (k + 1) _ rfl (.int .i32 y) HT.out.own _ rfl rfl rfl (by omega) (by omega) HT.out.bel.size ?_; intro v1 w4 ho1 hg1; have HT1 := hide (HT.out.one ho1 hg1); clear ho1 hg1)
        rw [← HX.out] at HT1
        go_roundw
        case rel => exact ⟨k + 1, _, rfl, by go_num, by omega, by omega, HT1⟩
        case measure => simp [intOf]; omega
      · have hex : ¬ (k : Int) < (n0 : Int) ∨ ((k : Int) < (n0 : Int) ∧ ¬ (k : Int) < 400) := by omega
        obtain ⟨a7, c7, rfl, r7⟩ := row_of_owns HT.out.own
        have HR7 := hide r7
        have HK7 := hide (KO.on HK0.out HT.out.bel)
        clear HT r7 hlt HT0 HTX HFR
        rcases hex with hex | ⟨hex, hex2⟩
        all_goals
          go_wp2
          go_loopw [9] (fun s9 wz => ∃ x : Int, s9 = .int .i64 x ∧ (x = -1 ∨ x = 1 ∨ x = 3) ∧ Hid (KO wr wz)) (fun s9 _ => (8 - intOf s9).toNat)
          case atStart => exact ⟨-1, rfl, .inl rfl, hide (KO.refl _)⟩
          case round =>
            rename World => wz
            obtain ⟨x, rfl, hx, HZ⟩ := hrel
            by_cases hx2 : x = -1 ∨ x = Rn.lp true
            · have hx3 : x ≤ 1 := by rcases hx2 with rfl | rfl <;> decide
              have hxw : x + 2 = 1 ∨ x + 2 = 3 := by rcases hx2 with rfl | rfl <;> decide
              have HP := hide (HPA.out wz a7 c7 k x (KO.on HK7.out HZ.out) hk hk4 (HR7.out.below HZ.out) hx2)
              rw [show Rn.lp true = 1 from rfl] at HP
              clear hx hx2
              go_wp2_with fail
              refine HP.out.mono ?_
              rintro e w5 ⟨a5, c5, L, rfl, hr5, hk5, hv5⟩
              have HR5 := hide hr5
              have HV5 := hide hv5
              have HK5 := hide (KO.on HZ.out hk5)
              clear hr5 hv5 hk5 HP HZ
              go_wp2
              go_loopw [77] (fun s77 wq => ∃ i : Nat, s77 = .int .i64 (i : Int) ∧ i ≤ k + 1 ∧ w5 = wq) (fun s77 _ => k + 1 - (intOf s77).toNat)
              case atStart => exact ⟨0, rfl, Nat.zero_le _, rfl⟩
              case round =>
                obtain ⟨i, rfl, hi, rfl⟩ := hrel
                by_cases hi2 : i < k + 1
                · obtain ⟨b5, o5, rfl, _, hc5⟩ := HR5.out.cells (by omega)
                  have cv := hc5 i (by rw [HR5.out.len]; exact hi2)
                  rw [HV5.out i hi2] at cv
                  have hii : (i : Int) < ((k + 1 : Nat) : Int) := by omega
                  have hii2 : (i : Int) < (k : Int) + 1 := by omega
                  clear hc5
                  go_wp2
                  go_roundw
                  case rel => exact ⟨i + 1, by go_num, by omega, trivial⟩
                  case measure => simp [intOf]; omega
                · obtain rfl : i = k + 1 := by omega
                  have hne2 : ¬ ((k : Int) + 1 < (k : Int) + 1) := by omega
                  go_wp2
                  go_roundw
                  case rel => exact ⟨x + 2, by go_num, by omega, HK5⟩
                  case measure => simp [intOf]; omega
            · have hx4 : ¬ x ≤ 1 := by
                rw [show Rn.lp true = 1 from rfl] at hx2
                omega
              have HE := hide (KO.on HK7.out HZ.out)
              clear hx hx2 HZ
              go_wp2
              go_ret
              exact ⟨rfl, HE.out⟩
end Go.Proofs.YtfadjgaledddjaaGreatDoor
