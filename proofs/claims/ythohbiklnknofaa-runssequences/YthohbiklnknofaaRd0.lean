/- The document's behind, at embeddings and at initiators. -/
import Derived.Test.YthohbiklnknofaaRc
import Derived.Deep.RegionLaw
namespace Go.Proofs.Ythohbiklnknofaa
open Go.RowKit
set_option linter.unusedVariables false
set_option maxHeartbeats 2000000
set_option maxRecDepth 100000
theorem radd_yes' {w : World} {st : List Ex.Ent} {g n cap : Nat} (h : WA w st g n cap) (hn : 0 < n) (hn2 : n ≤ 200) (zi zo va : Int) (hzi : zi = 0) (hzo : zo = 0) (o : Bool) (ov : Int) (is : Bool) (h0 : 0 ≤ (Ex.hd st).lv) (h1 : (Ex.hd st).lv ≤ 125) (hc : Ex.nl (Ex.hd st).lv o ≤ 125) :
    Calls Try.prog 60 #[.agg #[.slice (some ⟨g, 0, none⟩) n cap, .int .i64 zi, .int .i64 zo, .int .i64 va], .bool o, .int .i64 ov, .bool is] w fun e w' => ∃ g' cap', e = .returned (.tuple #[.agg #[.slice (some ⟨g', 0, none⟩) (n + 1) cap', .int .i64 zi, .int .i64 zo, .int .i64 va], .bool true]) ∧ WA w' (⟨Ex.nl (Ex.hd st).lv o, ov, is⟩ :: st) g' (n + 1) cap' ∧ Below w.heap.size w w' := by
  subst hzi hzo
  exact radd_yes h hn hn2 va o ov is h0 h1 hc
end Go.Proofs.Ythohbiklnknofaa
