/- Package parse: what the listed variables hold; signs. -/
import Derived.Test.YtmkhfcdjgdofnaaDoorTreE
import Derived.Test.YtmkhfcdjgdofnaaDoorWrdH
import Derived.Test.YtmkhfcdjgdofnaaDoorParM
import Derived.WalkSmall
namespace Go.Proofs.YtmkhfcdjgdofnaaDoor
open Go.RowKit TreM WrdM ParM

def sgL : List (List UInt8) := [[], [], [], [], [], [45], [33], [88], [70], [71], [89], [90], [79], [72], [42], [43], [45], [61], [33, 61], [60], [60, 61], [62], [62, 61], [85], [82], [83], [84], [38], [124], [45, 62], [60, 45, 62]]
/-- What the listed variables of packages tree and parse hold. -/
structure PrG (W : World) : Prop where
  wd : SgnAt W
  sg : ∀ j, j < 31 → W.cell? ⟨2, j, none⟩ = some (.string ⟨(sgL.getD j []).toArray⟩)
  bd : ∀ j, 14 ≤ j → j < 31 → W.cell? ⟨0, j, none⟩ = some (.int .i64 (bnd j))
  n : 3 ≤ W.heap.size
theorem PrG.below {B : Nat} {W W' : World} (h : PrG W) (hb : Below B W W') (hB : 3 ≤ B) : PrG W' :=
  ⟨h.wd.below hb (by show 1 < B; omega), fun j hj => (hb.cell (p := ⟨2, j, none⟩) (by show 2 < B; omega)).trans (h.sg j hj),
    fun j h1 h2 => (hb.cell (p := ⟨0, j, none⟩) (by show 0 < B; omega)).trans (h.bd j h1 h2), Nat.le_trans h.n hb.size⟩
end Go.Proofs.YtmkhfcdjgdofnaaDoor
