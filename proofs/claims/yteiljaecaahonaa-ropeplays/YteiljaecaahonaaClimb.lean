/- climb: a path of nodes gone up from its lower end (a range over slices.Backward, a method value as the hand). -/
import Derived.Test.YteiljaecaahonaaHang
import Derived.Test.YteiljaecaahonaaRng
import Derived.Shelf.Abstract
import Derived.Shelf.RegionOpen
import Derived.WalkKit
import Derived.OwnWalkIn
import Derived.TacticsInMore
import Derived.LoopNIn
import Derived.LoopIn
namespace Go.Proofs.Yteiljaecaahonaa
open Go.RowKit Go.Shelf
set_option linter.unusedVariables false
set_option maxHeartbeats 1000000
set_option maxRecDepth 100000
attribute [local go_sem] Oper.semAt_some
/-- A row of addresses. -/
structure PRow (w : World) (ao : Option Addr) (n : Nat) (ps : List (Option Addr)) : Prop where
  len : ps.length = n
  max : n ≤ 4611686018427387904
  cells : 0 < n → ∃ b off, ao = some ⟨b, off, none⟩ ∧ ∀ i, i < n → w.cell? ⟨b, off + i, none⟩ = some (.pointer (ps.getD i none))
/-- What slices.Backward hands on: the places from the last one down, with what lies there. -/
def downs (ps : List (Option Addr)) : List (Nat × Option Addr) := (List.range ps.length).map fun k => (ps.length - 1 - k, ps.getD (ps.length - 1 - k) none)
theorem downs_len (ps : List (Option Addr)) : (downs ps).length = ps.length := by simp [downs]
theorem downs_at (ps : List (Option Addr)) (k : Nat) (h : k < ps.length) : (downs ps)[k]? = some (ps.length - 1 - k, ps.getD (ps.length - 1 - k) none) := by
  simp [downs, h]
/-- slices.Backward's function. -/
theorem backward1_seq (Bs : Nat) (ao : Option Addr) (n cap : Nat) (ps : List (Option Addr)) :
    Seq true Try.prog 72 #[.pointer (some ⟨Bs, 0, none⟩)] (fun x : Nat × Option Addr => #[Value.int .i64 (x.1 : Int), Value.pointer x.2]) (downs ps)
      (fun X => X.cell? ⟨Bs, 0, none⟩ = some (.slice ao n cap) ∧ PRow X ao n ps) := by
  intro m l J Jx W hOk hJ hJx hY h0
  obtain ⟨cB, hrow⟩ := hOk _ _ h0
  have hlen := hrow.len
  have hmax := hrow.max
  refine callsIn_of_wp Try.func72 rfl trivial ?_
  simp only [Try.ntmps72, List.size_toArray, List.length_cons, List.length_nil, Nat.reduceAdd, Nat.reduceSub, Array.replicate_succ, Array.replicate_zero, List.push_toArray, List.append_toArray, List.nil_append, List.cons_append]
  have e1 : wrap64 ((n : Int) - 1) = (n : Int) - 1 := w64_small (by omega) (by omega)
  gi_wp2
  gi_loopw [3] (fun p wr => ∃ k : Nat, k ≤ n ∧ p = .int .i64 ((n : Int) - 1 - (k : Int)) ∧ W.heap.size ≤ wr.heap.size ∧ J ((downs ps).take k) wr) (fun p _ => (intOf p + 1).toNat)
  case atStart => exact ⟨0, by omega, by simp, Nat.le_refl _, by simpa using h0⟩
  case round =>
    obtain ⟨k, hk, rfl, hsz, hJk⟩ := hrel
    obtain ⟨cB', hrow'⟩ := hOk _ _ hJk
    by_cases hlt : k < n
    · obtain ⟨i, hi⟩ : ∃ i : Nat, n - 1 - k = i := ⟨_, rfl⟩
      have hii : (n : Int) - 1 - (k : Int) = (i : Int) := by omega
      obtain ⟨b, off, hao, hc⟩ := hrow'.cells (by omega)
      have hci := hc i (by omega)
      have hin : (i : Int) < (n : Int) := by omega
      have hat := downs_at ps k (by omega)
      rw [hlen, hi] at hat
      obtain ⟨p, hp⟩ : ∃ p, ps.getD i none = p := ⟨_, rfl⟩
      rw [hp] at hci hat
      have htk := take_snoc' _ _ _ hat
      obtain ⟨fn, tmps, assign, body, hy, hR⟩ := hY (m - 1) _ (i, p) wr hJk (by rw [← htk]; exact prefix_take _ _) hsz
      rw [← htk] at hR
      dsimp only at hy
      rw [hii]
      rw [hao] at cB'
      have e2 : wrap64 ((i : Int) - 1) = (i : Int) - 1 := w64_small (by omega) (by omega)
      clear hat htk hp hc hrow' hrow cB hJk hao
      gi_wp2
      refine ⟨fun h => (by cases h), ?_⟩
      refine hR.mono ?_
      rintro e W3 ⟨hbey, (⟨rfl, hJ3⟩ | ⟨rfl, hJx3⟩)⟩
      · gi_wp2
        go_roundw
        case rel => exact ⟨k + 1, by omega, congrArg (Value.int .i64) (by omega), Nat.le_trans hsz hbey.size, hJ3⟩
        case measure => simp [intOf]
      · gi_wp2
        refine bodyPost_ret (results_none rfl _ _ _) rfl ?_
        exact ⟨⟨_, rfl⟩, Nat.le_trans hsz hbey.size, .inr ⟨_, prefix_take _ _, hJx3⟩⟩
    · obtain rfl : k = n := by omega
      have hii : (k : Int) - 1 - (k : Int) = -1 := by omega
      rw [hii]
      gi_wp2
      go_end0
      exact ⟨⟨_, rfl⟩, hsz, .inl (by rw [← hlen, ← downs_len, List.take_length] at hJk; exact hJk)⟩
theorem backward_any (ao : Option Addr) (n cap : Nat) (w : World) :
    Calls Try.prog 71 #[.slice ao n cap] w fun e w' => e = .returned (.func (.func 72) #[] #[.pointer (some ⟨w.heap.size, 0, none⟩)]) ∧ w' = w.alloc (.cells #[.slice ao n cap] 113) := by
  go_enter Try.func71, Try.ntmps71
  go_wp2
  go_ret
  exact ⟨rfl, rfl⟩
namespace Tr
theorem up_append (q c) (fs gs : List Fr) : up q c (fs ++ gs) = up q (up q c fs) gs := by
  induction fs generalizing c with
  | nil => rfl
  | cons f fs ih => exact ih _
theorem upl_append (q c) (fs gs : List Fr) : upl q c (fs ++ gs) = upl q (upl q c fs) gs := by
  induction fs generalizing c with
  | nil => rfl
  | cons f fs ih => exact ih _
theorem up_cut (q c) (fs : List Fr) (k : Nat) : up q c fs = up q (up q c (fs.take k)) (fs.drop k) := by rw [← up_append, List.take_append_drop]
theorem up_snoc (q c) (fs : List Fr) (k : Nat) (f : Fr) (h : fs[k]? = some f) : up q c (fs.take (k + 1)) = mk q f.1 (up q c (fs.take k)) f.2.1 f.2.2 := by
  rw [take_snoc' fs k f h, up_append]; rfl
theorem upl_snoc (q c) (fs : List Fr) (k : Nat) (f : Fr) (h : fs[k]? = some f) : upl q c (fs.take (k + 1)) = glue q (upl q c (fs.take k)) f.2.1 f.2.2.list := by
  rw [take_snoc' fs k f h, upl_append]; rfl
theorem upl_le (q) (c : List Int) (fs : List Fr) (k : Nat) : (upl q c (fs.take k)).length ≤ (upl q c fs).length := by
  rw [upl_len, upl_len]
  have := up_size q (up q nil (fs.take k)) (fs.drop k)
  rw [← up_cut] at this
  omega
end Tr
theorem lies_up {w : World} {q : Bool} {c : Tr} {fs : List Tr.Fr} (h : Lies w (Tr.up q c fs)) : Lies w c := by
  induction fs generalizing c with
  | nil => exact h
  | cons f fs ih => exact (ih h).mk_cells.2.2.1
theorem Ch.frozen {B : Nat} {X Y : World} (h : Ch true B X Y) {a : Addr} {v : Value} (hv : X.cell? a = some v) : Y.frozen? a = X.frozen? a := by
  cases ho : X.heap[a.block]? with
  | none => unfold World.cell? at hv; simp [ho] at hv
  | some o =>
    have hc : o.isCells = true := by
      unfold World.cell? at hv
      cases o <;> simp_all [Obj.isCells]
    exact World.frozen?_of_block (by rw [ho]; exact h.cells rfl _ o ho hc)
theorem Lies.ch {B : Nat} {X Y : World} (h : Ch true B X Y) {t : Tr} (ht : Lies X t) : Lies Y t := by
  induction t with
  | nil => trivial
  | node b l x r ihl ihr =>
    obtain ⟨c0, c1, c2, c3, c4, c5, hl, hr⟩ := ht
    exact ⟨h.cell c0, h.cell c1, h.cell c2, h.cell c3, h.cell c4, h.cell c5, ihl hl, ihr hr⟩
theorem PRow.ch {B : Nat} {X Y : World} (h : Ch true B X Y) {ao : Option Addr} {n : Nat} {ps : List (Option Addr)} (hr : PRow X ao n ps) : PRow Y ao n ps :=
  ⟨hr.len, hr.max, fun h0 => by
    obtain ⟨b, off, e, hc⟩ := hr.cells h0
    exact ⟨b, off, e, fun i hi => h.cell (hc i hi)⟩⟩
/-- The addresses of a path's nodes, the outermost first. -/
def pathOf (fs : List Tr.Fr) : List (Option Addr) := fs.reverse.map fun f => some ⟨f.1, 0, none⟩
theorem pathOf_len (fs : List Tr.Fr) : (pathOf fs).length = fs.length := by simp [pathOf]
theorem downs_path (fs : List Tr.Fr) (k : Nat) (f : Tr.Fr) (h : fs[k]? = some f) : (downs (pathOf fs))[k]? = some (fs.length - 1 - k, some ⟨f.1, 0, none⟩) := by
  obtain ⟨hk, hf⟩ := List.getElem?_eq_some_iff.1 h
  rw [downs_at _ _ (by rw [pathOf_len]; exact hk), pathOf_len]
  have e : (pathOf fs)[fs.length - 1 - k]? = some (some ⟨f.1, 0, none⟩) := by
    unfold pathOf
    rw [List.getElem?_map, List.getElem?_reverse (by omega), show fs.length - 1 - (fs.length - 1 - k) = k from by omega, h]; rfl
  simp [List.getD, e]
/-- What holds between two rounds: k frames have been gone up. -/
structure Mid (w : World) (q : Bool) (c low : Tr) (fs : List Tr.Fr) (ao : Option Addr) (n cap : Nat) (k : Nat) (T : Tr) (W : World) : Prop where
  box : Boxed W w.heap.size 35 (.pointer T.at)
  hand : W.cell? ⟨w.heap.size + 1, 0, none⟩ = some (.func (.func 70) #[.int .i64 (sideI q)] #[])
  path : W.cell? ⟨w.heap.size + 2, 0, none⟩ = some (.slice ao n cap)
  row : PRow W ao n (pathOf fs)
  all : Lies W (Tr.up q c fs)
  lies : Lies W T
  list : T.list = Tr.upl q low.list (fs.take k)
  bal : T.bal
  lo : (Tr.up q c (fs.take k)).high ≤ T.high
  hi : T.high ≤ (Tr.up q c (fs.take k)).high + 1
  below : Below w.heap.size w W
theorem Mid.ch {w : World} {q : Bool} {c low : Tr} {fs : List Tr.Fr} {ao : Option Addr} {n cap k : Nat} {T : Tr} {X Y : World} {B : Nat} (h : Mid w q c low fs ao n cap k T X) (hc : Ch true B X Y) (hB : w.heap.size ≤ B) : Mid w q c low fs ao n cap k T Y :=
  ⟨hc.cells rfl _ _ h.box rfl, hc.cell h.hand, hc.cell h.path, h.row.ch hc, h.all.ch hc, h.lies.ch hc, h.list, h.bal, h.lo, h.hi, h.below.trans (hc.below.mono hB)⟩
theorem PRow.below {w w' : World} {ao : Option Addr} {n : Nat} {ps : List (Option Addr)} (h : PRow w ao n ps) (hb : Below w.heap.size w w') : PRow w' ao n ps :=
  ⟨h.len, h.max, fun h0 => by
    obtain ⟨b, off, e, hc⟩ := h.cells h0
    exact ⟨b, off, e, fun i hi => (hb.cell (by simpa using World.block_lt_of_cell? w _ (hc i hi))).trans (hc i hi)⟩⟩
/-- A store into a variable's box turns no tree. -/
theorem Lies.setBox {Y : World} {t : Tr} {b : Nat} {ty : TypeId} {u : Value} (h : Lies Y t) (hb : Boxed Y b ty u) (v : Value) : Lies (Y.setCell ⟨b, 0, none⟩ v) t := by
  induction t with
  | nil => trivial
  | node d l x r ihl ihr =>
    obtain ⟨c0, c1, c2, c3, c4, c5, hl, hr⟩ := h
    have hne : d ≠ b := fun e => by subst e; simp [World.cell?, show Y.heap[d]? = _ from hb] at c1
    have k : ∀ i, (Y.setCell ⟨b, 0, none⟩ v).cell? ⟨d, i, none⟩ = Y.cell? ⟨d, i, none⟩ := fun i => World.cell?_setCell_other _ _ _ _ (fun e => hne (by injection e with e1; exact e1.symm))
    exact ⟨(k _).trans c0, (k _).trans c1, (k _).trans c2, (k _).trans c3, (k _).trans c4, (k _).trans c5, ihl hl, ihr hr⟩
/-- One frame more: behind the call of the hand, and the store of what it made. -/
theorem Mid.step {w : World} {q : Bool} {c low : Tr} {fs : List Tr.Fr} {ao : Option Addr} {n cap k : Nat} {T T' : Tr} {X Y : World} {f : Tr.Fr} (h : Mid w q c low fs ao n cap k T X) (hf : fs[k]? = some f) (hb : Below X.heap.size X Y) (hw : w.heap.size + 3 ≤ X.heap.size)
    (hl : Lies Y T') (hls : T'.list = Tr.glue q T.list f.2.1 f.2.2.list) (hbal : T'.bal) (h1 : (Tr.mk q f.1 (Tr.up q c (fs.take k)) f.2.1 f.2.2).high ≤ T'.high) (h2 : T'.high ≤ (Tr.mk q f.1 (Tr.up q c (fs.take k)) f.2.1 f.2.2).high + 1)
    (hrow : PRow w ao n (pathOf fs)) (hlw : Lies w (Tr.up q c fs)) :
    Mid w q c low fs ao n cap (k + 1) T' (Y.setCell ⟨w.heap.size, 0, none⟩ (.pointer T'.at)) := by
  have hB : Below w.heap.size w (Y.setCell ⟨w.heap.size, 0, none⟩ (.pointer T'.at)) := (h.below.trans (hb.mono h.below.size)).setCell (by exact Nat.le_refl _) _
  have c0 : Boxed Y w.heap.size 35 (.pointer T.at) := (hb.block _ (by omega)).trans h.box
  refine ⟨c0.set _, ?_, ?_, hrow.below hB, hlw.below hB, hl.setBox c0 _, by rw [hls, h.list, Tr.upl_snoc q _ _ _ _ hf], hbal, by rw [Tr.up_snoc q c fs k f hf]; exact h1, by rw [Tr.up_snoc q c fs k f hf]; exact h2, hB⟩
  · rw [World.cell?_setCell_other _ _ _ _ (by simp)]; exact (hb.cell (by show w.heap.size + 1 < _; omega)).trans h.hand
  · rw [World.cell?_setCell_other _ _ _ _ (by simp)]; exact (hb.cell (by show w.heap.size + 2 < _; omega)).trans h.path
set_option maxHeartbeats 4000000 in
theorem climb_any (q : Bool) (c low : Tr) (fs : List Tr.Fr) (w : World) (ao : Option Addr) (n cap : Nat) (hH : Lies w (Tr.up q c fs)) (hbal : (Tr.up q c fs).bal) (hl : Lies w low) (hlb : low.bal) (h1 : c.high ≤ low.high) (h2 : low.high ≤ c.high + 1)
    (hrow : PRow w ao n (pathOf fs)) (hs : (Tr.up q c fs).size + low.size ≤ 4611686018427387904) :
    Calls Try.prog 69 #[.slice ao n cap, .pointer low.at, .func (.func 70) #[.int .i64 (sideI q)] #[]] w fun e w' =>
      ∃ T : Tr, e = .returned (.pointer T.at) ∧ Lies w' T ∧ T.list = Tr.upl q low.list fs ∧ T.bal ∧ (Tr.up q c fs).high ≤ T.high ∧ T.high ≤ (Tr.up q c fs).high + 1 ∧ Below w.heap.size w w' := by
  have hn : fs.length = n := by have := hrow.len; rw [pathOf_len] at this; exact this
  refine (callsIn_wide (n := 3)).1 ?_
  refine callsIn_of_wp_marks Try.func69 rfl trivial ?_
  simp only [Try.ntmps69, List.size_toArray, List.length_cons, List.length_nil, Nat.reduceAdd, Nat.reduceSub, Array.replicate_succ, Array.replicate_zero, List.push_toArray, List.append_toArray, List.nil_append, List.cons_append]
  gi_wp2_with (refine ⟨trivial, ?_⟩; gi_at_call 71; refine (callsIn_wide.2 (backward_any _ _ _ _)).mono ?_; rintro e w' ⟨rfl, rfl⟩)
  obtain ⟨W0, hW0⟩ : ∃ W0, (((w.alloc (Obj.cells #[Value.pointer low.at] 35)).alloc (Obj.cells #[Value.func (Fn.func 70) #[Value.int IntKind.i64 (sideI q)] #[]] 87)).alloc (Obj.cells #[Value.slice ao n cap] 113)) = W0 := ⟨_, rfl⟩
  rw [hW0]
  have hsz : W0.heap.size = w.heap.size + 3 := by rw [← hW0]; simp
  have hB0 : Below w.heap.size w W0 := by rw [← hW0]; exact (((Below.refl _ _).alloc (Nat.le_refl _) _).alloc (by simp) _).alloc (by simp; omega) _
  have h0 : Mid w q c low fs ao n cap 0 low W0 := by
    refine ⟨?_, ?_, ?_, hrow.below hB0, hH.below hB0, hl.below hB0, rfl, hlb, h1, h2, hB0⟩
    · rw [← hW0]; exact ((Boxed.new w _ _).alloc _).alloc _
    · rw [← hW0]
      have := ((Boxed.new (w.alloc (Obj.cells #[Value.pointer low.at] 35)) 87 (Value.func (Fn.func 70) #[Value.int IntKind.i64 (sideI q)] #[])).alloc (Obj.cells #[Value.slice ao n cap] 113)).cell
      rw [World.size_alloc] at this; exact this
    · rw [← hW0]
      have := (Boxed.new ((w.alloc (Obj.cells #[Value.pointer low.at] 35)).alloc (Obj.cells #[Value.func (Fn.func 70) #[Value.int IntKind.i64 (sideI q)] #[]] 87)) 113 (Value.slice ao n cap)).cell
      rw [World.size_alloc, World.size_alloc] at this; exact this
  clear hW0 hB0
  refine wpIn_range (ck := true) (gf := 72) (lb := #[.pointer (some ⟨w.heap.size + 1 + 1, 0, none⟩)]) rfl (enters_of Try.func72 (by kernel_rfl) rfl) (backward1_seq (w.heap.size + 2) ao n cap (pathOf fs)) (fun _ => rfl)
    (fun pre W => ∃ T, Mid w q c low fs ao n cap pre.length T W) (fun _ _ _ => False) (fun pre X ⟨T, h⟩ => ⟨h.path, h.row⟩) (fun pre X Y ⟨T, h⟩ hc => ⟨T, h.ch hc (by omega)⟩) (fun _ _ _ _ h _ => h) ⟨low, h0⟩
    (fun x => { tmps := #[.slice ao n cap, .pointer low.at, .func (.func 70) #[.int .i64 (sideI q)] #[], undef, .pointer (some ⟨w.heap.size, 0, none⟩), .pointer (some ⟨w.heap.size + 1, 0, none⟩), .pointer none, undef, .pointer x.2, .slice ao n cap, .func (.func 72) #[] #[.pointer (some ⟨w.heap.size + 1 + 1, 0, none⟩)], .int .i64 (x.1 : Int), .pointer x.2, undef, undef, undef, undef, undef], defers := [] }) ?assign ?body ?done ?stop
  case assign =>
    intro m l x W K hK
    gi_wp2
    exact hK
  case body =>
    rintro m l pre x X ⟨T, hT⟩ hpre hXs
    have hx := (prefix_at hpre).1
    have hlt : pre.length < fs.length := by
      have := (List.getElem?_eq_some_iff.1 hx).1
      rw [downs_len, pathOf_len] at this
      exact this
    obtain ⟨f, hf⟩ : ∃ f, fs[pre.length]? = some f := ⟨_, List.getElem?_eq_getElem hlt⟩
    have hxe := (downs_path fs _ f hf).symm.trans hx
    simp only [Option.some.injEq] at hxe
    subst hxe
    have hcut := Tr.up_cut q c fs (pre.length + 1)
    rw [Tr.up_snoc q c fs _ f hf] at hcut
    have hlt1 : Lies X (Tr.mk q f.1 (Tr.up q c (fs.take pre.length)) f.2.1 f.2.2) := lies_up (by rw [← hcut]; exact hT.all)
    have hbt1 : (Tr.mk q f.1 (Tr.up q c (fs.take pre.length)) f.2.1 f.2.2).bal := Tr.up_bal (by rw [← hcut]; exact hbal)
    have hst1 : (Tr.mk q f.1 (Tr.up q c (fs.take pre.length)) f.2.1 f.2.2).size ≤ (Tr.up q c fs).size := by have := Tr.up_size q (Tr.mk q f.1 (Tr.up q c (fs.take pre.length)) f.2.1 f.2.2) (fs.drop (pre.length + 1)); rw [← hcut] at this; exact this
    have hst2 : T.size + f.2.2.size + 1 ≤ (Tr.up q c fs).size + low.size := by
      have e1 := Tr.upl_le q low.list fs (pre.length + 1)
      rw [Tr.upl_snoc q _ _ _ _ hf, ← hT.list, Tr.glue_len, Tr.upl_len] at e1
      have e2 : (Tr.up q .nil fs).size ≤ (Tr.up q c fs).size := by
        have e3 := Tr.upl_len q c.list fs
        rw [← Tr.up_list] at e3
        have e4 : (Tr.up q c fs).size = (Tr.up q c fs).list.length := rfl
        omega
      have e5 : T.size = T.list.length := rfl
      have e6 : f.2.2.size = f.2.2.list.length := rfl
      have e7 : low.size = low.list.length := rfl
      omega
    have HH := hide (hang_any q f.1 f.2.1 (Tr.up q c (fs.take pre.length)) f.2.2 T X hlt1 hT.lies hbt1 hT.bal (by omega) (by omega) hT.lo hT.hi)
    have cl := hT.box.cell
    have fl := hT.box.frozen
    have ch := hT.hand
    have HT := hide hT
    have HF := hide hf
    have HROW := hide hrow
    have HLW := hide hH
    have HSZ := hide hXs
    have HS0 := hide hsz
    clear hT hlt1 hbt1 hst1 hst2 hcut hx hpre hf hrow hH hXs hsz hn hlt hbal hl hlb h1 h2 hs h0
    dsimp only
    generalize hQ : rPost _ _ _ _ X = Q
    have HQ := hide hQ
    clear hQ
    gi_wp2_with fail
    refine ⟨trivial, fun h => (by cases h), ?_⟩
    refine (CallsIn.inRound l (callsIn_wide.2 HH.out)).mono ?_
    rintro e Y ⟨T', rfl, hl', hls', hb', hlo', hhi', hB'⟩
    have hbx : Boxed Y w.heap.size 35 (.pointer T.at) := (hB'.block _ (by have := HS0.out; have := HSZ.out; omega)).trans HT.out.box
    have cY := hbx.cell
    have fY := hbx.frozen
    have HL' := hide hl'
    have HLS' := hide hls'
    have HLO' := hide hlo'
    have HHI' := hide hhi'
    clear hbx hl' hls' hlo' hhi' cl fl ch
    gi_wp2
    rw [← HQ.out]
    have hs1 := HS0.out
    have hs2 := HSZ.out
    refine ⟨(Beyond.of_below hB').trans (Beyond.setCell Y (by show w.heap.size < W0.heap.size; omega) _), T', ?_⟩
    have := HT.out.step HF.out hB' (by omega) HL'.out HLS'.out hb' HLO'.out HHI'.out HROW.out HLW.out
    simpa using this
  case done =>
    rintro D W hD hWs ⟨T, hT⟩ hK
    rw [downs_len, pathOf_len] at hT
    have cl := hT.box.cell
    have hB := hT.below
    have HT := hide hT
    have HB := hide hB
    have HD := hide hD
    have HS0 := hide hsz
    clear hT hB hD hrow hH hsz hn hbal hl hlb h1 h2 hs h0 hWs
    gi_wp2
    refine ⟨by simp, .inl ⟨_, _, rfl, run_takeDeferred hK, ?_⟩⟩
    have hc : Ch true w.heap.size W (W.putObj D (.deferred none)) := Ch.put (by have := HD.out; have := HS0.out; omega) hK rfl _
    have hM := HT.out.ch hc (Nat.le_refl _)
    have hl := hM.list
    have h1 := hM.lo
    have h2 := hM.hi
    rw [List.take_length] at hl h1 h2
    exact ⟨_, results_tmp rfl _ _ _, T, rfl, hM.lies, hl, hM.bal, h1, h2, hM.below⟩
  case stop =>
    rintro D c pre W _ _ _ h _
    exact h.elim
end Go.Proofs.Yteiljaecaahonaa
