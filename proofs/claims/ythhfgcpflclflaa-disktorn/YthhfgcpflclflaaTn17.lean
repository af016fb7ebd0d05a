/- A sector of which one write waits, behind a crash; 'copy' into a list of 64 bytes. -/
import Derived.Test.YthhfgcpflclflaaWk17
namespace Go.Proofs.Ythhfgcpflclflaa
open Go.RowKit
set_option linter.unusedVariables false
set_option maxHeartbeats 1000000
set_option maxRecDepth 100000
section
variable (A B : List Int) (kept : Int)
def T1 : Dk.Ds := (Dk.WR (Dk.NW 3) 1 A).1
def T2 : Dk.Ds := (Dk.FL (T1 A)).1
def T3 : Dk.Ds := (Dk.WR (T2 A) 1 B).1
theorem nw3_has : Dk.has (Dk.NW 3) 1 := by decide +kernel
theorem T1_eq (hA : A.length = 64) : Dk.WR (Dk.NW 3) 1 A = (Dk.tick { Dk.NW 3 with waits := [(1, A)] }, 0) := WR_ok (d := Dk.NW 3) nw3_has hA (by decide)
theorem T1_v (hA : A.length = 64) : T1 A = { lies := List.replicate 3 (List.replicate 64 0), waits := [(1, A)], steps := 1, left := -1 } := by
  unfold T1
  rw [T1_eq A hA]
  rfl
theorem T2_eq (hA : A.length = 64) : (Dk.FL (T1 A)).2 = 0 ∧ T2 A = { lies := [List.replicate 64 0, A, List.replicate 64 0], waits := [], steps := 2, left := -1 } := by
  unfold T2
  rw [T1_v A hA]
  exact ⟨rfl, rfl⟩
theorem T3_eq (hA : A.length = 64) (hB : B.length = 64) : (Dk.WR (T2 A) 1 B).2 = 0 ∧ T3 A B = { lies := [List.replicate 64 0, A, List.replicate 64 0], waits := [(1, B)], steps := 3, left := -1 } := by
  unfold T3
  rw [(T2_eq A hA).2, WR_ok (by unfold Dk.has; simp) hB (by show ¬ (-1 : Int) = 0; omega)]
  exact ⟨rfl, rfl⟩
theorem T4_v (hA : A.length = 64) (hB : B.length = 64) : Dk.CR (T3 A B) [kept] = { lies := [List.replicate 64 0, Dk.torn kept B A, List.replicate 64 0], waits := [], steps := 0, left := -1 } := by
  rw [(T3_eq A B hA hB).2]
  rfl
theorem T4_one (hA : A.length = 64) (hB : B.length = 64) : Dk.RD (Dk.CR (T3 A B) [kept]) 1 = (Dk.torn kept B A, 0) := by
  rw [T4_v A B kept hA hB]
  unfold Dk.RD
  rw [if_neg (not_not_intro (by unfold Dk.has; simp)), if_neg (by show ¬ (-1 : Int) = 0; omega)]
  rfl
theorem T4_two (hA : A.length = 64) (hB : B.length = 64) : Dk.RD (Dk.CR (T3 A B) [kept]) 2 = (List.replicate 64 0, 0) := by
  rw [T4_v A B kept hA hB]
  unfold Dk.RD
  rw [if_neg (not_not_intro (by unfold Dk.has; simp)), if_neg (by show ¬ (-1 : Int) = 0; omega)]
  rfl
end
/-- A block of 64 bytes. -/
def BK17 (w : World) (g : Nat) (zs : List Int) : Prop := w.heap[g]? = some (.cells (uv zs).toArray 5 (0, 0))
theorem BK17.keep {w w' : World} {g : Nat} {zs : List Int} {F : Nat → Prop} (h : BK17 w g zs) (hm : Mod F w w') (hF : ¬ F g) : BK17 w' g zs :=
  (hm.block g (Array.getElem?_eq_some_iff.1 h).1 hF).trans h
theorem BK17.ko {w w' : World} {g : Nat} {zs : List Int} (h : BK17 w g zs) (hk : KO w w') : BK17 w' g zs := h.keep (F := fun _ => False) (Mod.of_ko hk) fun q => q
theorem BK17.lt {w : World} {g : Nat} {zs : List Int} (h : BK17 w g zs) : g < w.heap.size := (Array.getElem?_eq_some_iff.1 h).1
theorem BK17.row {w : World} {g : Nat} {zs : List Int} (h : BK17 w g zs) (hz : zs.length = 64) : Row .u8 w (some ⟨g, 0, none⟩) 64 64 zs := by
  refine ⟨hz, Nat.le_refl _, by unfold maxLen; omega, fun _ => ⟨g, 0, rfl, h.lt, fun i hi => ?_⟩, fun e => by cases e⟩
  have := blk_range h 0 (uv zs) (fun j v hj => by rw [Nat.zero_add]; exact hj) i (.int .u8 (zs.getD i 0)) (by unfold uv; rw [List.getElem?_map, List.getElem?_eq_getElem hi]; simp [List.getD, List.getElem?_eq_getElem hi])
  exact this
theorem blk_of_owns17 {w : World} {base g n e : Nat} {xs : List Value} (h : w.ownsRow base e 1 (.slice (some ⟨g, 0, none⟩) n n) n xs) : w.heap[g]? = some (.cells xs.toArray e (0, 0)) := by
  rcases h.2 with ⟨h0, _⟩ | ⟨g', cap', cur, hv, hbs, hh, hle, hm, hsz, ht⟩
  · cases h0
  · cases hv
    rw [hh]
    have : cur.toList.take (n * 1) = cur.toList := List.take_of_length_le (by rw [Array.length_toList, hsz]; exact Nat.le_refl _)
    rw [this] at ht
    rw [← ht]
theorem BK17.of_nr {w wr : World} {zs : List Int} (h : NR .u8 5 w 64 zs wr) : BK17 wr w.heap.size zs := blk_of_owns17 h.own
/-- What a copy leaves. -/
def over17 (bs zs : List Int) : List Int := bs.take 64 ++ zs.drop (min bs.length 64)
theorem over_len {bs zs : List Int} (hz : zs.length = 64) : (over17 bs zs).length = 64 := by
  unfold over17
  rw [List.length_append, List.length_take, List.length_drop, hz]
  omega
theorem over_bytes {bs zs : List Int} (hb : Bytes bs) (hz : Bytes zs) : ∀ x ∈ over17 bs zs, 0 ≤ x ∧ x ≤ 255 := fun x hx => by
  unfold over17 at hx
  rcases List.mem_append.1 hx with q | q
  · exact hb x (List.mem_of_mem_take q)
  · exact hz x (List.mem_of_mem_drop q)
theorem byteSize17 : (Try.prog.info? 5).map (·.size) = some 1 := by kernel_rfl
theorem copy_row17 {W : World} {g m c : Nat} {ao : Option Addr} {bs zs : List Int} (hr : Row .u8 W ao m c bs) (hg : BK17 W g zs) (hz : zs.length = 64) :
    ∃ W2, (Builtin.copy_ #[33, 33] 3 #[.slice (some ⟨g, 0, none⟩) 64 64, .slice ao m c]).run Try.prog W = .ok (.int .i64 ((min m 64 : Nat) : Int)) W2 ∧ BK17 W2 g (over17 bs zs) ∧ Mod (fun k => k = g) W W2 := by
  have hl := hr.len
  by_cases h0 : m = 0
  · subst h0
    have hrun := run_copy_none (P := Try.prog) W 33 33 3 5 (some ⟨g, 0, none⟩) ao 64 64 0 c Try.underlying33 byteSize17 rfl
    refine ⟨W, hrun, ?_, Mod.refl _ _⟩
    obtain rfl : bs = [] := List.length_eq_zero_iff.1 hl
    exact hg
  · obtain ⟨b, off, rfl, hb, hc⟩ := hr.cells (by omega)
    have hcl : (uv (bs.take 64)).length = min m 64 := by rw [uv_len, List.length_take, hl]; omega
    have hrun := run_copy_row (P := Try.prog) W 33 33 3 5 g 0 64 64 ⟨b, off, none⟩ m c (uv zs).toArray 5 (uv (bs.take 64)) Try.underlying33 byteSize17 hg hcl (fun j v hj => by
      have hjl := (List.getElem?_eq_some_iff.1 hj).1
      rw [hcl] at hjl
      have hadd : (⟨b, off, none⟩ : Addr).add j = ⟨b, off + j, none⟩ := by unfold Addr.add; split <;> simp_all
      rw [hadd, hc j (by omega), ← hj]
      unfold uv
      rw [List.getElem?_map, List.getElem?_take_of_lt (by omega), List.getElem?_eq_getElem (by omega)]
      simp [List.getD, List.getElem?_eq_getElem (show j < bs.length by omega)]) (by rw [hcl, List.size_toArray, uv_len]; omega) (uv_one _)
    refine ⟨_, (by rw [hrun, hcl]; rfl), ?_, ?_⟩
    · have hgs := hg.lt
      unfold BK17
      rw [setRow_heap W g _ _ _ _ hg]
      congr 2
      rw [List.take_zero, List.nil_append, Nat.zero_add]
      unfold over17 uv
      rw [List.map_append, hl, List.map_drop]
    · exact ⟨rfl, rfl, rfl, by rw [setRow_size]; exact Nat.le_refl _, fun k _ hn => setRow_other _ _ _ _ hn⟩
end Go.Proofs.Ythhfgcpflclflaa
