import Derived.Test.YtfcoebbblfcdoaaGreatDoorZ16
import Derived.Test.YtfcoebbblfcdoaaGreatDoorZ19
import Derived.Test.YtfcoebbblfcdoaaGreatDoorZ21
import Derived.Test.YtfcoebbblfcdoaaGreatDoorZ23
import Derived.Test.YtfcoebbblfcdoaaGreatDoorZ01
/- What Paragraph answers; what each chapter is handed of a sequence: plain mathematics. -/
namespace Go.Proofs.YtfcoebbblfcdoaaGreatDoor
set_option linter.unusedVariables false
namespace Rn
open Ex (lev LV TY rm Formed)
theorem pp14 : ∀ tx T, ∀ q ∈ Br.PP tx T, T.getD q.1 0 = 14 /\ T.getD q.2 0 = 14 := by
 intro tx T q hq
 obtain ⟨_, _, h3, h4, _⟩ := Br.F_p _ (Br.mem_PS.1 hq)
 refine ⟨?_, ?_⟩
 ·by_cases h : T.getD q.1 0 = 14
  ·exact h
  ·rw [Br.kd_not h] at h3; exact absurd h3 (by decide)
 ·by_cases h : T.getD q.2 0 = 14
  ·exact h
  ·rw [Br.kd_not h] at h4; exact absurd h4 (by decide)
def F13 : List Int -> List Int -> Int -> Int -> Int -> List Int := F12 Br.PP
theorem fine13 : Fine F13 := fine12 pp14
def cl (l : List Int) : List Int := l.map Ucd.cls
theorem cl_len (l : List Int) : (cl l).length = l.length := by simp [cl]
theorem cl_at (l : List Int) {i : Nat} (hi : i < l.length) : (cl l).getD i 0 = Ucd.cls (l.getD i 0) := by simp [cl, List.getD, hi]
def bl (base : Int) (l : List Int) : Int := if base = -1 then Iso.bso 0 (cl l) else base
def BB (base : Int) : Prop := -1 <= base /\ base <= 1
theorem bl_two {base : Int} (h : BB base) (l : List Int) : bl base l = 0 \/ bl base l = 1 := by
 unfold bl
 split
 ·exact Iso.bso_two _ _
 ·unfold BB at h; omega
def VS (l : List Int) (b : Int) : List Int := PVs F13 l b (cl l)
theorem VS_len (l : List Int) (b : Int) : (VS l b).length = l.length := by unfold VS; rw [PVs_len, cl_len]
def PA (l : List Int) (base : Int) (n : Int) (L : List Int) (E : Int) : Prop :=
 (¬ BB base /\ n = 0 /\ L = [] /\ E = 2) \/ (BB base /\ 4096 < l.length /\ n = 0 /\ L = [] /\ E = 3) \/ (BB base /\ l.length <= 4096 /\ ¬ Formed (cl l) /\ n = 0 /\ L = [] /\ E = 50) \/
  (BB base /\ l.length <= 4096 /\ Formed (cl l) /\ n = bl base l /\ L = VS l (bl base l) /\ E = 0)
theorem PA_some (l : List Int) (base : Int) : ∃ n L E, PA l base n L E := by
 by_cases h1 : BB base
 ·by_cases h2 : l.length <= 4096
  ·by_cases h3 : Formed (cl l)
   ·exact ⟨_, _, _, .inr (.inr (.inr ⟨h1, h2, h3, rfl, rfl, rfl⟩))⟩
   ·exact ⟨_, _, _, .inr (.inr (.inl ⟨h1, h2, h3, rfl, rfl, rfl⟩))⟩
  ·exact ⟨_, _, _, .inr (.inl ⟨h1, by omega, rfl, rfl, rfl⟩)⟩
 ·exact ⟨_, _, _, .inl ⟨h1, rfl, rfl, rfl⟩⟩
theorem PA_err {l : List Int} {base n : Int} {L : List Int} {E : Int} (h : PA l base n L E) : (E = 0 /\ BB base /\ l.length <= 4096 /\ Formed (cl l) /\ n = bl base l /\ L = VS l (bl base l)) \/ (¬ E = 0 /\ n = 0 /\ L = [] /\ (E = 2 \/ E = 3 \/ E = 50)) := by
 rcases h with ⟨_, rfl, rfl, rfl⟩ | ⟨_, _, rfl, rfl, rfl⟩ | ⟨_, _, _, rfl, rfl, rfl⟩ | ⟨h1, h2, h3, rfl, rfl, rfl⟩
 ·exact .inr ⟨by decide, rfl, rfl, .inl rfl⟩
 ·exact .inr ⟨by decide, rfl, rfl, .inr (.inl rfl)⟩
 ·exact .inr ⟨by decide, rfl, rfl, .inr (.inr rfl)⟩
 ·exact .inl ⟨rfl, h1, h2, h3, rfl, rfl⟩
structure G (tx ty : List Int) (lv so eo : Int) : Prop where
 len : tx.length = ty.length
 ok : We.Ok ty
 lv0 : 0 <= lv
 lv1 : lv <= 125
 so : so = 1 \/ so = 2
 eo : eo = 1 \/ eo = 2
theorem g_of {b : Int} (hb : b = 0 \/ b = 1) {c : List Int} (hF : Formed c) (l : List Int) {s : Sq} (hs : s ∈ SQ b c) : G (pk l s.places) (pk (TY b c) s.places) s.lvl s.sos s.eos := by
 obtain ⟨h1, h2, h3, h4, _⟩ := sq_good hb hF hs
 exact ⟨by rw [pk_len, pk_len], ok_ty hb hF hs, h1, h2, h3, h4⟩
section
variable {tx ty : List Int} {lv so eo : Int}
theorem G.b9 (h : G tx ty lv so eo) : B9 so ty (T9 ty so) 0 := .inr (.inr ⟨h.so, h.ok, rfl, rfl⟩)
theorem G.ra (h : G tx ty lv so eo) : Br.RA tx ty (T9 ty so) lv so = (0, T10 Br.PP tx ty lv so) :=
 Br.RA_ok ⟨⟨by rw [T9_len]; exact h.len, (T9_len _ _).symm⟩, ⟨h.lv0, by have := h.lv1; omega⟩, h.so⟩ (t9_all h.ok h.so)
theorem G.ar (h : G tx ty lv so eo) : Ne.AR (T10 Br.PP tx ty lv so) lv so eo (Ne.RS (T10 Br.PP tx ty lv so) lv so eo) 0 :=
 .inr (.inr ⟨⟨h.lv0, by have := h.lv1; omega, h.so, h.eo⟩, t10_ok h.ok h.so, rfl, rfl⟩)
theorem G.al (h : G tx ty lv so eo) : Ne.AL (Ne.RS (T10 Br.PP tx ty lv so) lv so eo) lv (F13 tx ty lv so eo) 0 :=
 .inr (.inr ⟨⟨h.lv0, by have := h.lv1; omega⟩, rs_sided _ _ _ _ h.so, rfl, rfl⟩)
end
theorem wf_small {x : Int} (h1 : -1000 <= x) (h2 : x <= 1000) : (Lit.int .i64 x).wf = true := WalkArith.wf_i64 (by omega)
theorem wf_ok {t : List Int} (h : Ne.Ok t) : WF t := by
 intro x hx
 obtain ⟨m, hm, rfl⟩ := List.mem_iff_getElem.1 hx
 have h1 := h m hm
 have e : t.getD m 0 = t[m] := by simp [List.getD, hm]
 rw [e] at h1
 generalize t[m] = y at *
 have h2 : -1000 <= y /\ y <= 1000 := by
  by_cases h0 : -1000 <= y /\ y <= 1000
  ·exact h0
  ·exfalso
   have e1 : Ne.sd y = 0 := by unfold Ne.sd; rw [if_neg (by omega), if_neg (by omega)]
   have e2 : Ne.neu y = false := by unfold Ne.neu; simp only [Bool.or_eq_false_iff, beq_eq_false_iff_ne]; omega
   rcases h1 with h | h
   ·exact h e1
   ·rw [e2] at h; cases h
 exact wf_small h2.1 h2.2
theorem wf_sided {t : List Int} (h : Ne.Sided t) : WF t := wf_ok fun i hi => .inl (h i hi)
section
variable {tx ty : List Int} {lv so eo : Int}
theorem G.wf10 (h : G tx ty lv so eo) : WF (T10 Br.PP tx ty lv so) := wf_ok (t10_ok h.ok h.so)
theorem G.wf11 (h : G tx ty lv so eo) : WF (Ne.RS (T10 Br.PP tx ty lv so) lv so eo) := wf_sided (rs_sided _ _ _ _ h.so)
end
end Rn
end Go.Proofs.YtfcoebbblfcdoaaGreatDoor

/- A paragraph's levels, place by place; asked for again: plain mathematics. -/
namespace Go.Proofs.YtfcoebbblfcdoaaGreatDoor.Rn
set_option linter.unusedVariables false
open Ex (lev LV TY rm Formed)
theorem VS_at (l : List Int) (b : Int) {i : Nat} (hi : i < l.length) : (VS l b).getD i 0 = PV F13 l b (cl l) i := PVs_at F13 l b (cl l) (by rw [cl_len]; exact hi)
theorem VS_cases {b : Int} (hb : b = 0 \/ b = 1) {l : List Int} (hF : Formed (cl l)) {i : Nat} (hi : i < l.length) :
  (rm (Ucd.cls (l.getD i 0)) = true /\ (VS l b).getD i 0 = -1 /\ ¬ Ucd.cls (l.getD i 0) = 11) \/ (Ucd.cls (l.getD i 0) = 11 /\ (VS l b).getD i 0 = b) \/ (rm (Ucd.cls (l.getD i 0)) = false /\ ¬ Ucd.cls (l.getD i 0) = 11 /\ b <= (VS l b).getD i 0 /\ (VS l b).getD i 0 <= 126) := by
 have hc : i < (cl l).length := by rw [cl_len]; exact hi
 rw [VS_at l b hi, <- cl_at l hi]
 by_cases h11 : (cl l).getD i 0 = 11
 ·exact .inr (.inl ⟨h11, PV_sep hb hF fine13 l hc h11⟩)
 ·cases hr : rm ((cl l).getD i 0) with
  | true => exact .inl ⟨rfl, PV_gone hb hF F13 l (by rw [kp_rm hb hc, hr]; rfl), h11⟩
  | false =>
   have := PV_range hb hF fine13 l hc (by rw [kp_rm hb hc, hr]; rfl)
   exact .inr (.inr ⟨rfl, h11, this.1, this.2⟩)
theorem PA_again {l : List Int} {base m : Int} {L : List Int} (h : PA l base m L 0) : (m = 0 \/ m = 1) /\ (0 <= base -> m = base) /\ L.length = l.length /\ L = VS l m /\ Formed (cl l) /\ PA l m m L 0 := by
 rcases PA_err h with ⟨_, h1, h2, h3, h4, h5⟩ | ⟨h0, _⟩
 ·have h6 := bl_two h1 l
  rw [<- h4] at h6 h5
  have h7 : bl m l = m := by unfold bl; rw [if_neg (by omega)]
  refine ⟨h6, fun hb => ?_, by rw [h5, VS_len], h5, h3, .inr (.inr (.inr ⟨⟨by omega, by omega⟩, h2, h3, h7.symm, by rw [h7]; exact h5, rfl⟩))⟩
  rw [h4]
  unfold bl
  rw [if_neg (by omega)]
 ·exact absurd rfl h0
end Go.Proofs.YtfcoebbblfcdoaaGreatDoor.Rn

/- Places by the least level between them; stretches turned about: plain mathematics. -/
namespace Go.Proofs.YtfcoebbblfcdoaaGreatDoor
set_option linter.unusedVariables false
namespace Od
def fl (p : Nat -> Bool) : List Nat -> List Nat -> List Nat
 | acc, [] => acc
 | acc, x :: r => if p x then fl p (x :: acc) r else acc ++ x :: fl p [] r
theorem fl_perm (p : Nat -> Bool) : ∀ (r acc : List Nat), (fl p acc r).Perm (acc ++ r)
 | [], acc => by rw [fl, List.append_nil]
 | x :: r, acc => by
  rw [fl]
  split
  ·refine (fl_perm p r (x :: acc)).trans ?_
   rw [List.cons_append]
   exact List.perm_middle.symm
  ·exact List.Perm.append_left acc (List.Perm.cons x (by simpa using fl_perm p r []))
theorem mem_fl {p : Nat -> Bool} {r acc : List Nat} {z : Nat} : z ∈ fl p acc r ↔ z ∈ acc \/ z ∈ r := by
 rw [(fl_perm p r acc).mem_iff, List.mem_append]
def OKs (p : Nat -> Bool) (S : Nat -> Nat -> Prop) (Q : List Nat) : Prop :=
 ∀ l1 x m y l2, Q = l1 ++ x :: (m ++ y :: l2) -> ((p x = true /\ p y = true /\ ∀ z ∈ m, p z = true) -> S y x) /\ (¬ (p x = true /\ p y = true /\ ∀ z ∈ m, p z = true) -> S x y)
theorem OKs.tail {p : Nat -> Bool} {S : Nat -> Nat -> Prop} {l Q : List Nat} (h : OKs p S (l ++ Q)) : OKs p S Q := by
 intro l1 x m y l2 e
 exact h (l ++ l1) x m y l2 (by rw [e, List.append_assoc])
theorem OKs.head {p : Nat -> Bool} {S : Nat -> Nat -> Prop} {l Q : List Nat} (h : OKs p S (Q ++ l)) : OKs p S Q := by
 intro l1 x m y l2 e
 exact h l1 x m y (l2 ++ l) (by rw [e]; simp)
theorem acc_sorted {p : Nat -> Bool} {S : Nat -> Nat -> Prop} : ∀ (acc : List Nat), (∀ x ∈ acc, p x = true) -> OKs p S acc.reverse -> acc.Pairwise S
 | [], _, _ => List.Pairwise.nil
 | x :: acc, hp, h => by
  rw [List.reverse_cons] at h
  refine List.pairwise_cons.2 ⟨fun y hy => ?_, acc_sorted acc (fun z hz => hp z (List.mem_cons_of_mem _ hz)) h.head⟩
  obtain ⟨l1, l2, e⟩ := List.append_of_mem (List.mem_reverse.2 hy)
  refine (h l1 y l2 x [] (by rw [e]; simp)).1 ⟨hp y (List.mem_cons_of_mem _ hy), hp x List.mem_cons_self, fun z hz => hp z (List.mem_cons_of_mem _ (List.mem_reverse.1 (by rw [e]; simp [hz])))⟩
theorem fl_sorted {p : Nat -> Bool} {S : Nat -> Nat -> Prop} : ∀ (r acc : List Nat), (∀ x ∈ acc, p x = true) -> OKs p S (acc.reverse ++ r) -> (fl p acc r).Pairwise S
 | [], acc, hp, h => by
  rw [fl]
  exact acc_sorted acc hp (by simpa using h)
 | x :: r, acc, hp, h => by
  rw [fl]
  by_cases hx : p x = true
  ·rw [if_pos hx]
   refine fl_sorted r (x :: acc) (fun z hz => ?_) (by rw [List.reverse_cons, List.append_assoc]; exact h)
   rcases List.mem_cons.1 hz with rfl | hz
   ·exact hx
   ·exact hp z hz
  ·rw [if_neg hx]
   have hr : OKs p S r := OKs.tail (l := acc.reverse ++ [x]) (by rw [List.append_assoc]; exact h)
   refine List.pairwise_append.2 ⟨acc_sorted acc hp h.head, List.pairwise_cons.2 ⟨fun y hy => ?_, fl_sorted r [] (by simp) (by simpa using hr)⟩, fun u hu v hv => ?_⟩
   ·have hy2 : y ∈ r := (mem_fl.1 hy).resolve_left (by simp)
    obtain ⟨m, l2, e⟩ := List.append_of_mem hy2
    exact (h acc.reverse x m y l2 (by rw [e])).2 (fun q => hx q.1)
   ·obtain ⟨l1, l2, e⟩ := List.append_of_mem (List.mem_reverse.2 hu)
    rcases List.mem_cons.1 hv with rfl | hv
    ·exact (h l1 u l2 v r (by rw [e]; simp)).2 (fun q => hx q.2.1)
    ·have hv2 : v ∈ r := (mem_fl.1 hv).resolve_left (by simp)
     obtain ⟨m, l3, e3⟩ := List.append_of_mem hv2
     exact (h l1 u (l2 ++ x :: m) v l3 (by rw [e, e3]; simp)).2 (fun q => hx (q.2.2 x (by simp)))
section
variable (lv : List Int)
def at' (i : Nat) : Int := lv.getD i 0
def sn (i : Nat) : Bool := decide (i < lv.length /\ 0 <= lv.getD i 0)
def ls (i : Nat) : Nat -> Int
 | 0 => lv.getD i 0
 | d + 1 => if 0 <= lv.getD (i + (d + 1)) 0 /\ lv.getD (i + (d + 1)) 0 < ls i d then lv.getD (i + (d + 1)) 0 else ls i d
def le (x y : Nat) : Int := if x <= y then ls lv x (y - x) else ls lv y (x - y)
end
variable {lv : List Int}
theorem ls_le (i : Nat) : ∀ d z, i <= z -> z <= i + d -> 0 <= lv.getD z 0 \/ z = i -> ls lv i d <= lv.getD z 0 := by
 intro d
 induction d with
 | zero =>
  intro z h1 h2 _
  obtain rfl : z = i := by omega
  exact Int.le_refl _
 | succ d ih =>
  intro z h1 h2 h3
  rw [ls]
  by_cases hz : z = i + (d + 1)
  ·subst hz
   split
   ·exact Int.le_refl _
   ·rename_i hn
    rcases h3 with h3 | h3
    ·omega
    ·omega
  ·have := ih z h1 (by omega) h3
   split
   ·omega
   ·exact this
theorem ls_ge {i : Nat} {k : Int} : ∀ d, (∀ z, i <= z -> z <= i + d -> (0 <= lv.getD z 0 \/ z = i) -> k <= lv.getD z 0) -> k <= ls lv i d := by
 intro d
 induction d with
 | zero => intro h; exact h i (Nat.le_refl _) (Nat.le_refl _) (.inr rfl)
 | succ d ih =>
  intro h
  rw [ls]
  split
  ·rename_i hc
   exact h _ (by omega) (by omega) (.inl hc.1)
  ·exact ih fun z h1 h2 h3 => h z h1 (by omega) h3
theorem le_comm (x y : Nat) : le lv x y = le lv y x := by
 unfold le
 by_cases h : x <= y
 ·by_cases h2 : y <= x
  ·obtain rfl : x = y := by omega
   rfl
  ·rw [if_pos h, if_neg h2]
 ·rw [if_neg h, if_pos (by omega)]
theorem le_le {x y z : Nat} (hx : 0 <= lv.getD x 0) (hy : 0 <= lv.getD y 0) (hz : 0 <= lv.getD z 0) (h : (x <= z /\ z <= y) \/ (y <= z /\ z <= x)) : le lv x y <= lv.getD z 0 := by
 unfold le
 split
 ·exact ls_le x _ z (by omega) (by omega) (.inl hz)
 ·exact ls_le y _ z (by omega) (by omega) (.inl hz)
theorem le_ge {x y : Nat} {k : Int} (hx : 0 <= lv.getD x 0) (hy : 0 <= lv.getD y 0) (h : ∀ z, ((x <= z /\ z <= y) \/ (y <= z /\ z <= x)) -> 0 <= lv.getD z 0 -> k <= lv.getD z 0) : k <= le lv x y := by
 unfold le
 split
 ·refine ls_ge _ fun z h1 h2 h3 => h z (by omega) ?_
  rcases h3 with h3 | rfl
  ·exact h3
  ·exact hx
 ·refine ls_ge _ fun z h1 h2 h3 => h z (by omega) ?_
  rcases h3 with h3 | rfl
  ·exact h3
  ·exact hy
def Bf (lv : List Int) (k : Int) (x y : Nat) : Prop := if (le lv x y - k).toNat % 2 = 0 then x < y else y < x
theorem Bf_low {k : Int} {x y : Nat} (h : le lv x y <= k) : Bf lv k x y ↔ x < y := by
 unfold Bf
 rw [show (le lv x y - k).toNat = 0 by omega]
 simp
theorem Bf_turn {k : Int} {x y : Nat} (h : k <= le lv x y) : Bf lv (k - 1) x y ↔ Bf lv k y x := by
 unfold Bf
 rw [le_comm y x]
 have e : (le lv x y - (k - 1)).toNat = (le lv x y - k).toNat + 1 := by omega
 rw [e]
 generalize (le lv x y - k).toNat = c
 by_cases h0 : c % 2 = 0
 ·rw [if_pos h0, if_neg (show ¬ (c + 1) % 2 = 0 by omega)]
 ·rw [if_neg h0, if_pos (show (c + 1) % 2 = 0 by omega)]
structure By (lv : List Int) (k : Int) (P : List Nat) : Prop where
 pw : P.Pairwise (Bf lv k)
 mem : ∀ z, z ∈ P ↔ sn lv z = true
theorem sn_at {z : Nat} (h : sn lv z = true) : z < lv.length /\ 0 <= lv.getD z 0 := of_decide_eq_true h
theorem sn_of {z : Nat} (h : 0 <= lv.getD z 0) (hl : z < lv.length) : sn lv z = true := decide_eq_true ⟨hl, h⟩
theorem By.oks {k : Int} {P : List Nat} (h : By lv k P) : OKs (fun x => decide (k <= lv.getD x 0)) (Bf lv (k - 1)) P := by
 intro l1 x m y l2 e
 have hmx := sn_at ((h.mem x).1 (by rw [e]; simp))
 have hmy := sn_at ((h.mem y).1 (by rw [e]; simp))
 have hpw := h.pw
 rw [e] at hpw
 obtain ⟨_, hx2, h1⟩ := List.pairwise_append.1 hpw
 obtain ⟨hx3, hm2⟩ := List.pairwise_cons.1 hx2
 obtain ⟨_, hy2, h2⟩ := List.pairwise_append.1 hm2
 obtain ⟨hy3, _⟩ := List.pairwise_cons.1 hy2
 have hxy : Bf lv k x y := hx3 y (by simp)
 have key : (decide (k <= lv.getD x 0) = true /\ decide (k <= lv.getD y 0) = true /\ ∀ z ∈ m, decide (k <= lv.getD z 0) = true) ↔ k <= le lv x y := by
  constructor
  ·rintro ⟨px, py, pm⟩
   simp only [decide_eq_true_eq] at px py pm
   refine le_ge hmx.2 hmy.2 fun w hw hw0 => ?_
   by_cases hk : k <= lv.getD w 0
   ·exact hk
   exfalso
   have hwl : w < lv.length := by omega
   have hwP : w ∈ P := (h.mem w).2 (sn_of hw0 hwl)
   have hwx : le lv w x <= k := by have := le_le (x := w) (y := x) (z := w) hw0 hmx.2 hw0 (by omega); omega
   have hwy : le lv w y <= k := by have := le_le (x := w) (y := y) (z := w) hw0 hmy.2 hw0 (by omega); omega
   have hne1 : ¬ w = x := by rintro rfl; omega
   have hne2 : ¬ w = y := by rintro rfl; omega
   rw [e] at hwP
   rcases List.mem_append.1 hwP with hw1 | hw1
   ·have q1 := (Bf_low hwx).1 (h1 w hw1 x (by simp))
    have q2 := (Bf_low hwy).1 (h1 w hw1 y (by simp))
    omega
   ·rcases List.mem_cons.1 hw1 with hw1 | hw1
    ·exact hne1 hw1
    ·rcases List.mem_append.1 hw1 with hw1 | hw1
     ·exact hk (pm w hw1)
     ·rcases List.mem_cons.1 hw1 with hw1 | hw1
      ·exact hne2 hw1
      ·have q1 := (Bf_low (by rw [le_comm]; exact hwx)).1 (hx3 w (by simp [hw1]))
       have q2 := (Bf_low (by rw [le_comm]; exact hwy)).1 (hy3 w hw1)
       omega
  ·intro hk
   have px : k <= lv.getD x 0 := by have := le_le (x := x) (y := y) (z := x) hmx.2 hmy.2 hmx.2 (by omega); omega
   have py : k <= lv.getD y 0 := by have := le_le (x := x) (y := y) (z := y) hmx.2 hmy.2 hmy.2 (by omega); omega
   refine ⟨decide_eq_true px, decide_eq_true py, fun z hz => ?_⟩
   by_cases hzk : k <= lv.getD z 0
   ·exact decide_eq_true hzk
   exfalso
   have hmz := sn_at ((h.mem z).1 (by rw [e]; simp [hz]))
   have hxz : le lv x z <= k := by have := le_le (x := x) (y := z) (z := z) hmx.2 hmz.2 hmz.2 (by omega); omega
   have hzy : le lv z y <= k := by have := le_le (x := z) (y := y) (z := z) hmz.2 hmy.2 hmz.2 (by omega); omega
   have q1 := (Bf_low hxz).1 (hx3 z (by simp [hz]))
   have q2 := (Bf_low hzy).1 (h2 z hz y (by simp))
   have := le_le (x := x) (y := y) (z := z) hmx.2 hmy.2 hmz.2 (by omega)
   omega
 rw [key]
 refine ⟨fun hk => ?_, fun hk => ?_⟩
 ·rw [Bf_turn (by rw [le_comm]; exact hk)]
  exact hxy
 ·rw [Bf_low (by omega)]
  exact (Bf_low (by omega)).1 hxy
def turn (lv : List Int) (k : Int) (P : List Nat) : List Nat := fl (fun x => decide (k <= lv.getD x 0)) [] P
theorem By.turn {k : Int} {P : List Nat} (h : By lv k P) : By lv (k - 1) (turn lv k P) :=
 ⟨fl_sorted P [] (by simp) (by simpa using h.oks), fun z => by unfold Od.turn; rw [mem_fl, <- h.mem]; simp⟩
def K (lv : List Int) : List Nat := (List.range lv.length).filter (sn lv)
theorem K_by {k : Int} (hk : ∀ i, i < lv.length -> lv.getD i 0 <= k) : By lv k (K lv) := by
 refine ⟨?_, fun z => ?_⟩
 ·have h1 : (List.range lv.length).Pairwise (· < ·) := List.pairwise_lt_range
  have h2 : (K lv).Pairwise (· < ·) := h1.filter _
  refine h2.imp_of_mem ?_
  intro x y hx hy hxy
  have mx := sn_at (List.mem_filter.1 hx).2
  have my := sn_at (List.mem_filter.1 hy).2
  rw [Bf_low]
  ·exact hxy
  ·have := le_le (x := x) (y := y) (z := x) mx.2 my.2 mx.2 (by omega)
   have := hk x mx.1
   omega
 ·unfold K
  rw [List.mem_filter, List.mem_range]
  exact ⟨fun h => h.2, fun h => ⟨(sn_at h).1, h⟩⟩
def down (lv : List Int) (k : Int) : Nat -> List Nat
 | 0 => K lv
 | m + 1 => turn lv (k - (m : Int)) (down lv k m)
theorem down_by {k : Int} (hk : ∀ i, i < lv.length -> lv.getD i 0 <= k) : ∀ m : Nat, By lv (k - (m : Int)) (down lv k m)
 | 0 => by simpa [down] using K_by hk
 | m + 1 => by
  have := (down_by hk m).turn
  rw [show k - (m : Int) - 1 = k - ((m + 1 : Nat) : Int) by omega] at this
  exact this
theorem down_perm (k : Int) : ∀ m : Nat, (down lv k m).Perm (K lv)
 | 0 => List.Perm.refl _
 | m + 1 => (fl_perm _ _ _).trans (by simpa using down_perm k m)
def Lf (lv : List Int) (x y : Nat) : Prop := if le lv x y % 2 = 0 then x < y else y < x
theorem Lf_asymm {x y : Nat} (h : Lf lv x y) : ¬ Lf lv y x := by
 unfold Lf at *
 rw [le_comm y x]
 split at h
 ·rename_i h0; rw [if_pos h0]; omega
 ·rename_i h0; rw [if_neg h0]; omega
theorem Bf_Lf {k : Int} {x y : Nat} (hk : k % 2 = 0) (h0 : 0 <= le lv x y) (h : le lv x y <= k -> le lv x y % 2 = 0) : Bf lv k x y ↔ Lf lv x y := by
 unfold Bf Lf
 by_cases hle : le lv x y <= k
 ·rw [show (le lv x y - k).toNat = 0 by omega, if_pos (h hle)]
  simp
 ·have e : ((le lv x y - k).toNat % 2 = 0) ↔ le lv x y % 2 = 0 := by omega
  by_cases hp : le lv x y % 2 = 0
  ·rw [if_pos hp, if_pos (e.2 hp)]
  ·rw [if_neg hp, if_neg (fun q => hp (e.1 q))]
theorem ls_is (i : Nat) (hi : 0 <= lv.getD i 0) : ∀ d, ∃ z, i <= z /\ z <= i + d /\ 0 <= lv.getD z 0 /\ ls lv i d = lv.getD z 0
 | 0 => ⟨i, Nat.le_refl _, Nat.le_refl _, hi, rfl⟩
 | d + 1 => by
  rw [ls]
  split
  ·rename_i hc
   exact ⟨_, by omega, by omega, hc.1, rfl⟩
  ·obtain ⟨z, h1, h2, h3, h4⟩ := ls_is i hi d
   exact ⟨z, h1, by omega, h3, h4⟩
theorem le_is {x y : Nat} (hx : 0 <= lv.getD x 0) (hy : 0 <= lv.getD y 0) : ∃ z, ((x <= z /\ z <= y) \/ (y <= z /\ z <= x)) /\ 0 <= lv.getD z 0 /\ le lv x y = lv.getD z 0 := by
 unfold le
 split
 ·obtain ⟨z, h1, h2, h3, h4⟩ := ls_is x hx (y - x)
  exact ⟨z, by omega, h3, h4⟩
 ·obtain ⟨z, h1, h2, h3, h4⟩ := ls_is y hy (x - y)
  exact ⟨z, by omega, h3, h4⟩
end Od
end Go.Proofs.YtfcoebbblfcdoaaGreatDoor

/- The visual order: there is just one; where a place stands in it: plain mathematics. -/
namespace Go.Proofs.YtfcoebbblfcdoaaGreatDoor
set_option linter.unusedVariables false
namespace Od
theorem sorted_eq {S : Nat -> Nat -> Prop} (ha : ∀ x y, S x y -> ¬ S y x) : ∀ (P Q : List Nat), P.Pairwise S -> Q.Pairwise S -> (∀ z, z ∈ P ↔ z ∈ Q) -> P = Q
 | [], Q, _, _, h => by
  cases Q with
  | nil => rfl
  | cons y Q => exact absurd ((h y).2 List.mem_cons_self) (by simp)
 | x :: P, [], _, _, h => absurd ((h x).1 List.mem_cons_self) (by simp)
 | x :: P, y :: Q, hP, hQ, h => by
  obtain ⟨p1, p2⟩ := List.pairwise_cons.1 hP
  obtain ⟨q1, q2⟩ := List.pairwise_cons.1 hQ
  have hxy : x = y := by
   by_cases e : x = y
   ·exact e
   ·have hx : x ∈ Q := by
     rcases List.mem_cons.1 ((h x).1 List.mem_cons_self) with h0 | h0
     ·exact absurd h0 e
     ·exact h0
    have hy : y ∈ P := by
     rcases List.mem_cons.1 ((h y).2 List.mem_cons_self) with h0 | h0
     ·exact absurd h0.symm e
     ·exact h0
    exact absurd (q1 x hx) (ha _ _ (p1 y hy))
  subst hxy
  congr 1
  refine sorted_eq ha P Q p2 q2 fun z => ⟨fun hz => ?_, fun hz => ?_⟩
  ·rcases List.mem_cons.1 ((h z).1 (List.mem_cons_of_mem _ hz)) with rfl | h0
   ·exact absurd (p1 z hz) (ha _ _ (p1 z hz))
   ·exact h0
  ·rcases List.mem_cons.1 ((h z).2 (List.mem_cons_of_mem _ hz)) with rfl | h0
   ·exact absurd (q1 z hz) (ha _ _ (q1 z hz))
   ·exact h0
structure Vis (lv : List Int) (P : List Nat) : Prop where
 pw : P.Pairwise (Lf lv)
 mem : ∀ z, z ∈ P ↔ sn lv z = true
theorem Vis.eq {lv : List Int} {P Q : List Nat} (h : Vis lv P) (h' : Vis lv Q) : P = Q :=
 sorted_eq (fun _ _ => Lf_asymm) P Q h.pw h'.pw fun z => (h.mem z).trans (h'.mem z).symm
def OD (lv : List Int) : List Nat := down lv 127 127
def Fo (lv : List Int) : Prop := ∀ i, i < lv.length -> -1 <= lv.getD i 0 /\ lv.getD i 0 <= 127
theorem le_low {lv : List Int} {x y : Nat} (hx : sn lv x = true) (hy : sn lv y = true) : 0 <= le lv x y := le_ge (sn_at hx).2 (sn_at hy).2 fun z _ h => h
theorem vis_of {lv : List Int} {k : Int} {P : List Nat} (hk : k % 2 = 0) (h : By lv k P) (hodd : ∀ z, sn lv z = true -> lv.getD z 0 <= k -> lv.getD z 0 % 2 = 0) : Vis lv P := by
 refine ⟨h.pw.imp_of_mem ?_, h.mem⟩
 intro x y hx hy hb
 have sx := (h.mem x).1 hx
 have sy := (h.mem y).1 hy
 refine (Bf_Lf hk (le_low sx sy) fun hle => ?_).1 hb
 obtain ⟨z, h1, h2, h3⟩ := le_is (x := x) (y := y) (sn_at sx).2 (sn_at sy).2
 rw [h3] at hle ⊢
 have := (sn_at sx).1
 have := (sn_at sy).1
 exact hodd z (sn_of h2 (by omega)) hle
theorem OD_vis {lv : List Int} (h : Fo lv) : Vis lv (OD lv) := by
 have hb := down_by (lv := lv) (k := 127) (fun i hi => (h i hi).2) 127
 refine vis_of (k := 0) rfl hb fun z hz hle => ?_
 have := (sn_at hz).2
 rw [show lv.getD z 0 = 0 by omega]
 rfl
theorem OD_perm (lv : List Int) : (OD lv).Perm (K lv) := down_perm 127 127
theorem OD_len (lv : List Int) : (OD lv).length = (K lv).length := (OD_perm lv).length_eq
theorem OD_lt {lv : List Int} (h : Fo lv) {x : Nat} (hx : x ∈ OD lv) : x < lv.length := (sn_at (((OD_vis h).mem x).1 hx)).1
theorem OD_nodup {lv : List Int} (h : Fo lv) : (OD lv).Nodup := by
 refine (OD_vis h).pw.imp ?_
 rintro x y hxy rfl
 exact Lf_asymm hxy hxy
instance (lv : List Int) (x y : Nat) : Decidable (Lf lv x y) := by unfold Lf; exact inferInstance
def cnt (lv : List Int) (i : Nat) : Nat -> Nat
 | 0 => 0
 | k + 1 => if sn lv k = true /\ Lf lv k i then cnt lv i k + 1 else cnt lv i k
theorem cnt_filter (lv : List Int) (i : Nat) : ∀ k, cnt lv i k = (((List.range k).filter (sn lv)).filter fun j => decide (Lf lv j i)).length
 | 0 => rfl
 | k + 1 => by
  rw [cnt, List.range_succ, List.filter_append, List.filter_append, List.length_append, <- cnt_filter lv i k]
  by_cases h1 : sn lv k = true
  ·by_cases h2 : Lf lv k i
   ·rw [if_pos ⟨h1, h2⟩]; simp [h1, h2]
   ·rw [if_neg (fun q => h2 q.2)]; simp [h1, h2]
  ·rw [if_neg (fun q => h1 q.1)]; simp [h1]
theorem rank {S : Nat -> Nat -> Prop} [∀ x y, Decidable (S x y)] (ha : ∀ x y, S x y -> ¬ S y x) {l1 l2 : List Nat} {x : Nat} (h : (l1 ++ x :: l2).Pairwise S) : ((l1 ++ x :: l2).filter fun y => decide (S y x)).length = l1.length := by
 obtain ⟨_, h2, h3⟩ := List.pairwise_append.1 h
 obtain ⟨h4, _⟩ := List.pairwise_cons.1 h2
 rw [List.filter_append, List.length_append, List.filter_cons]
 have e1 : l1.filter (fun y => decide (S y x)) = l1 := List.filter_eq_self.2 fun y hy => decide_eq_true (h3 y hy x (by simp))
 have e2 : l2.filter (fun y => decide (S y x)) = [] := List.filter_eq_nil_iff.2 fun y hy => by simpa using ha _ _ (h4 y hy)
 have e3 : ¬ S x x := fun q => ha _ _ q q
 rw [e1, e2, if_neg (by simpa using e3)]
 simp
theorem cnt_at {lv : List Int} (h : Fo lv) {i : Nat} (hi : i < (OD lv).length) : cnt lv ((OD lv).getD i 0) lv.length = i := by
 have hv := OD_vis h
 rw [cnt_filter]
 have e : (OD lv).getD i 0 = (OD lv)[i] := by simp [List.getD, hi]
 rw [e]
 obtain ⟨l1, l2, h1, h2⟩ : ∃ l1 l2, OD lv = l1 ++ (OD lv)[i] :: l2 /\ l1.length = i :=
  ⟨(OD lv).take i, (OD lv).drop (i + 1), by rw [<- List.drop_eq_getElem_cons hi, List.take_append_drop], by rw [List.length_take]; omega⟩
 generalize (OD lv)[i] = x at *
 have hp := ((OD_perm lv).filter fun y => decide (Lf lv y x)).length_eq
 have hr := rank (S := Lf lv) (fun _ _ => Lf_asymm) (by rw [<- h1]; exact hv.pw)
 rw [<- h1] at hr
 have : ((K lv).filter fun y => decide (Lf lv y x)).length = l1.length := by rw [<- hp, hr]
 unfold K at this
 rw [this, h2]
def OUT (lv : List Int) (k : Nat) : List Int := (OD lv).map fun x => if x < k then (x : Int) else 0
theorem OUT_zero (lv : List Int) : OUT lv 0 = List.replicate (K lv).length 0 := by
 rw [<- OD_len]
 refine List.ext_getElem (by simp [OUT]) fun i h1 h2 => ?_
 simp [OUT]
theorem OUT_skip {lv : List Int} (h : Fo lv) {k : Nat} (hk : sn lv k = false) : OUT lv (k + 1) = OUT lv k := by
 unfold OUT
 refine List.map_congr_left fun x hx => ?_
 have hx2 := ((OD_vis h).mem x).1 hx
 have : ¬ x = k := by rintro rfl; rw [hk] at hx2; cases hx2
 by_cases h1 : x < k
 ·rw [if_pos h1, if_pos (by omega)]
 ·rw [if_neg h1, if_neg (by omega)]
theorem cnt_lt {lv : List Int} (h : Fo lv) {k : Nat} (hk : sn lv k = true) : cnt lv k lv.length < (OD lv).length /\ (OD lv).getD (cnt lv k lv.length) 0 = k := by
 have hm := ((OD_vis h).mem k).2 hk
 obtain ⟨i, hi, e⟩ := List.getElem_of_mem hm
 have e2 : (OD lv).getD i 0 = k := by simp [List.getD, hi, e]
 have := cnt_at h hi
 rw [e2] at this
 rw [this]
 exact ⟨hi, e2⟩
theorem OUT_put {lv : List Int} (h : Fo lv) {k : Nat} (hk : sn lv k = true) : (OUT lv k).set (cnt lv k lv.length) (k : Int) = OUT lv (k + 1) := by
 obtain ⟨h1, h2⟩ := cnt_lt h hk
 have hnd := OD_nodup h
 generalize cnt lv k lv.length = c at *
 unfold OUT
 refine List.ext_getElem (by simp) fun i i1 i2 => ?_
 simp only [List.length_set, List.length_map] at i1
 rw [List.getElem_set]
 simp only [List.getElem_map]
 have hc : (OD lv)[c] = k := by rw [<- h2]; simp [List.getD, h1]
 by_cases e : c = i
 ·subst e
  rw [if_pos rfl, hc, if_pos (by omega)]
 ·rw [if_neg e]
  have hne : ¬ (OD lv)[i] = k := fun q => e ((List.getElem_inj hnd).1 (hc.trans q.symm))
  by_cases hlt : (OD lv)[i] < k
  ·rw [if_pos hlt, if_pos (by omega)]
  ·rw [if_neg hlt, if_neg (by omega)]
theorem OUT_end {lv : List Int} (h : Fo lv) : OUT lv lv.length = (OD lv).map fun (x : Nat) => (x : Int) := by
 unfold OUT
 refine List.map_congr_left fun x hx => ?_
 rw [if_pos (OD_lt h hx)]
end Od
end Go.Proofs.YtfcoebbblfcdoaaGreatDoor

/- All levels more; one level with a stretch of a greater one: plain mathematics. -/
namespace Go.Proofs.YtfcoebbblfcdoaaGreatDoor
set_option linter.unusedVariables false
namespace Od
def up (d : Int) (lv : List Int) : List Int := lv.map fun n => if 0 <= n then n + d else n
def flat (L : Int) (a m b : Nat) : List Int := List.replicate a L ++ List.replicate m (L + 1) ++ List.replicate b L
theorem flat_len (L : Int) (a m b : Nat) : (flat L a m b).length = a + m + b := by simp [flat]; omega
theorem flat_at (L : Int) (a m b : Nat) {i : Nat} (hi : i < a + m + b) : (flat L a m b).getD i 0 = if a <= i /\ i < a + m then L + 1 else L := by
 unfold flat
 simp only [List.getD_eq_getElem?_getD]
 by_cases h1 : i < a
 ·rw [if_neg (by omega), List.append_assoc, List.getElem?_append_left (by simpa using h1), List.getElem?_replicate, if_pos h1]; rfl
 ·by_cases h2 : i < a + m
  ·rw [if_pos (by omega), List.append_assoc, List.getElem?_append_right (by simp; omega), List.getElem?_append_left (by simp; omega), List.getElem?_replicate, if_pos (by simp; omega)]; rfl
  ·rw [if_neg (by omega), List.getElem?_append_right (by simp; omega), List.getElem?_replicate, if_pos (by simp; omega)]; rfl
theorem flat_le {L : Int} (hL : 0 <= L) {a m b x y : Nat} (hx : x < a + m + b) (hy : y < a + m + b) : le (flat L a m b) x y = if (a <= x /\ x < a + m) /\ (a <= y /\ y < a + m) then L + 1 else L := by
 have sx : 0 <= (flat L a m b).getD x 0 := by rw [flat_at L a m b hx]; split <;> omega
 have sy : 0 <= (flat L a m b).getD y 0 := by rw [flat_at L a m b hy]; split <;> omega
 have lx := le_le sx sy sx (by omega)
 have ly := le_le sx sy sy (by omega)
 rw [flat_at L a m b hx] at lx
 rw [flat_at L a m b hy] at ly
 have h1 : L <= le (flat L a m b) x y := le_ge sx sy fun z hz _ => by rw [flat_at L a m b (by omega)]; split <;> omega
 by_cases h : (a <= x /\ x < a + m) /\ (a <= y /\ y < a + m)
 ·rw [if_pos h]
  rw [if_pos h.1] at lx
  have h2 : L + 1 <= le (flat L a m b) x y := le_ge sx sy fun z hz _ => by rw [flat_at L a m b (by omega), if_pos (by omega)]; exact Int.le_refl _
  omega
 ·rw [if_neg h]
  by_cases h3 : a <= x /\ x < a + m
  ·rw [if_neg (fun q => h ⟨h3, q⟩)] at ly
   omega
  ·rw [if_neg h3] at lx
   omega
end Od
end Go.Proofs.YtfcoebbblfcdoaaGreatDoor

/- The levels of a line: plain mathematics. -/
namespace Go.Proofs.YtfcoebbblfcdoaaGreatDoor
set_option linter.unusedVariables false
namespace Od
def sep (x : Int) : Bool := x == 12 || x == 11
def loose (x : Int) : Bool := x == 13 || (decide (20 <= x) && decide (x <= 23))
theorem sep_iff {x : Int} : sep x = true ↔ x = 12 \/ x = 11 := by simp [sep]
theorem loose_iff {x : Int} : loose x = true ↔ x = 13 \/ (20 <= x /\ x <= 23) := by simp [loose]
def rs (c lv : List Int) : Nat -> Nat -> Bool
 | _, 0 => true
 | i, d + 1 => if sep (c.getD i 0) = true then true else if 0 <= lv.getD i 0 /\ loose (c.getD i 0) = false then false else rs c lv (i + 1) d
section
variable {c lv : List Int} {base : Int}
theorem rs_end (i : Nat) : rs c lv i 0 = true := by rw [rs]
theorem rs_sep {i d : Nat} (h : sep (c.getD i 0) = true) : rs c lv i (d + 1) = true := by rw [rs, if_pos h]
theorem rs_stop {i d : Nat} (h : sep (c.getD i 0) = false) (h1 : 0 <= lv.getD i 0) (h2 : loose (c.getD i 0) = false) : rs c lv i (d + 1) = false := by
 rw [rs, if_neg (fun q => Bool.false_ne_true (h.symm.trans q)), if_pos ⟨h1, h2⟩]
theorem rs_on {i d : Nat} (h : sep (c.getD i 0) = false) (h1 : ¬ (0 <= lv.getD i 0 /\ loose (c.getD i 0) = false)) : rs c lv i (d + 1) = rs c lv (i + 1) d := by
 rw [rs, if_neg (fun q => Bool.false_ne_true (h.symm.trans q)), if_neg h1]
def li (c lv : List Int) (base : Int) (i d : Nat) : Int := if 0 <= lv.getD i 0 /\ rs c lv i d = true then base else lv.getD i 0
def LI (c lv : List Int) (base : Int) (fr tq : Nat) : List Int := (List.range (tq - fr)).map fun k => li c lv base (fr + k) (tq - (fr + k))
theorem LI_len (fr tq : Nat) : (LI c lv base fr tq).length = tq - fr := by simp [LI]
theorem LI_at {fr tq k : Nat} (h : k < tq - fr) : (LI c lv base fr tq).getD k 0 = li c lv base (fr + k) (tq - (fr + k)) := by simp [LI, List.getD, h]
theorem LI_upto {fr k tq : Nat} (h : k < tq - fr) : (LI c lv base fr tq).take (k + 1) = (LI c lv base fr tq).take k ++ [li c lv base (fr + k) (tq - (fr + k))] := by
 have hk : k < (LI c lv base fr tq).length := by rw [LI_len]; exact h
 rw [List.take_add_one, List.getElem?_eq_getElem hk]
 simp [LI]
theorem li_unseen {i d : Nat} (h : ¬ 0 <= lv.getD i 0) : li c lv base i d = lv.getD i 0 := by
 unfold li
 rw [if_neg (fun q => h q.1)]
end
end Od
end Go.Proofs.YtfcoebbblfcdoaaGreatDoor

/- A line's levels as the program goes through them, from the end: plain mathematics. -/
namespace Go.Proofs.YtfcoebbblfcdoaaGreatDoor
set_option linter.unusedVariables false
namespace Od
def txt (c l : List Int) (n : Nat) : Nat -> Bool
 | 0 => true
 | d + 1 => if txt c l n d = true then l.getD (n - (d + 1)) 0 == -1 || (sep (c.getD (n - (d + 1)) 0) || loose (c.getD (n - (d + 1)) 0)) else l.getD (n - (d + 1)) 0 != -1 && sep (c.getD (n - (d + 1)) 0)
def lx (c l : List Int) (base : Int) (n i : Nat) : Int := if ¬ l.getD i 0 = -1 /\ (sep (c.getD i 0) = true \/ (txt c l n (n - 1 - i) = true /\ loose (c.getD i 0) = true)) then base else l.getD i 0
def LX (c l : List Int) (base : Int) (n k : Nat) : List Int := (List.range n).map fun i => if k <= i then lx c l base n i else l.getD i 0
section
variable {c l : List Int} {base : Int} {n : Nat}
theorem LX_at {k i : Nat} (h : i < n) : (LX c l base n k).getD i 0 = if k <= i then lx c l base n i else l.getD i 0 := by simp [LX, List.getD, h]
theorem LX_start (h : l.length = n) : LX c l base n n = l := by
 refine List.ext_getElem (by simp [LX, h]) fun i h1 h2 => ?_
 simp only [LX, List.getElem_map, List.getElem_range]
 rw [if_neg (by omega)]
 simp [List.getD, h2]
theorem LX_same {i : Nat} (h : i < n) (he : lx c l base n i = l.getD i 0) : LX c l base n i = LX c l base n (i + 1) := by
 unfold LX
 refine List.map_congr_left fun j _ => ?_
 by_cases e : j = i
 ·subst e
  rw [if_pos (Nat.le_refl _), if_neg (by omega), he]
 ·by_cases h1 : i <= j
  ·rw [if_pos h1, if_pos (by omega)]
  ·rw [if_neg h1, if_neg (by omega)]
theorem LX_set {i : Nat} (h : i < n) (he : lx c l base n i = base) : (LX c l base n (i + 1)).set i base = LX c l base n i := by
 refine List.ext_getElem (by simp [LX]) fun j h1 h2 => ?_
 rw [List.getElem_set]
 simp only [LX, List.getElem_map, List.getElem_range]
 by_cases e : i = j
 ·subst e
  rw [if_pos rfl, if_pos (Nat.le_refl _), he]
 ·rw [if_neg e]
  by_cases h3 : i <= j
  ·rw [if_pos h3, if_pos (by omega)]
  ·rw [if_neg h3, if_neg (by omega)]
theorem txt_next {i : Nat} (h : i < n) : txt c l n (n - i) = if txt c l n (n - (i + 1)) = true then l.getD i 0 == -1 || (sep (c.getD i 0) || loose (c.getD i 0)) else l.getD i 0 != -1 && sep (c.getD i 0) := by
 have e : n - i = (n - (i + 1)) + 1 := by omega
 rw [e, txt, show n - (n - (i + 1) + 1) = i by omega]
theorem lx_of {i : Nat} (h : i < n) : lx c l base n i = if ¬ l.getD i 0 = -1 /\ (sep (c.getD i 0) = true \/ (txt c l n (n - (i + 1)) = true /\ loose (c.getD i 0) = true)) then base else l.getD i 0 := by
 unfold lx
 rw [show n - 1 - i = n - (i + 1) by omega]
theorem go_unseen {i : Nat} (h : i < n) (hl : l.getD i 0 = -1) : LX c l base n i = LX c l base n (i + 1) /\ txt c l n (n - i) = txt c l n (n - (i + 1)) := by
 refine ⟨LX_same h ?_, ?_⟩
 ·rw [lx_of h, if_neg (fun q => q.1 hl)]
 ·rw [txt_next h, hl]
  by_cases ht : txt c l n (n - (i + 1)) = true
  ·rw [if_pos ht, ht]; rfl
  ·rw [if_neg ht, (Bool.not_eq_true _).mp ht]; rfl
theorem go_sep {i : Nat} (h : i < n) (hl : ¬ l.getD i 0 = -1) (hs : sep (c.getD i 0) = true) : (LX c l base n (i + 1)).set i base = LX c l base n i /\ txt c l n (n - i) = true := by
 refine ⟨LX_set h ?_, ?_⟩
 ·rw [lx_of h, if_pos ⟨hl, .inl hs⟩]
 ·rw [txt_next h, hs]
  split
  ·simp
  ·simpa using hl
theorem go_loose {i : Nat} (h : i < n) (hl : ¬ l.getD i 0 = -1) (hs : loose (c.getD i 0) = true) (ht : txt c l n (n - (i + 1)) = true) : (LX c l base n (i + 1)).set i base = LX c l base n i /\ txt c l n (n - i) = true := by
 refine ⟨LX_set h ?_, ?_⟩
 ·rw [lx_of h, if_pos ⟨hl, .inr ⟨ht, hs⟩⟩]
 ·rw [txt_next h, if_pos ht, hs]
  simp
theorem go_text {i : Nat} (h : i < n) (hl : ¬ l.getD i 0 = -1) (hs : sep (c.getD i 0) = false) (ht : txt c l n (n - (i + 1)) = false \/ loose (c.getD i 0) = false) : LX c l base n i = LX c l base n (i + 1) /\ txt c l n (n - i) = false := by
 have hs2 : ¬ sep (c.getD i 0) = true := by rw [hs]; exact Bool.false_ne_true
 refine ⟨LX_same h ?_, ?_⟩
 ·rw [lx_of h, if_neg]
  rintro ⟨_, q | ⟨q1, q2⟩⟩
  ·exact hs2 q
  ·rcases ht with ht | ht
   ·rw [ht] at q1; cases q1
   ·rw [ht] at q2; cases q2
 ·rw [txt_next h, hs]
  split
  ·rename_i h1
   rcases ht with ht | ht
   ·rw [ht] at h1; cases h1
   ·rw [ht]; simpa using hl
  ·simp
end
end Od
end Go.Proofs.YtfcoebbblfcdoaaGreatDoor
