/- lit.without. -/
import Derived.Test.YtkckodpfhlpkgaaGreatLitD
namespace Go.Proofs.YtkckodpfhlpkgaaGreat
open Go.RowKit LitM

/-- What is left of xs without x. -/
def sansL (xs : List Int) (x : Int) : List Int := xs.filter (fun y => y != x)
theorem sans_snoc (xs : List Int) (x : Int) (k : Nat) (hk : k < xs.length) : sansL (xs.take (k + 1)) x = sansL (xs.take k) x ++ if xs.getD k 0 = x then [] else [xs.getD k 0] := by
  unfold sansL
  rw [List.take_succ_eq_append_getElem hk, List.filter_append, getD_lt hk]
  congr 1
  by_cases h : xs[k] = x <;> simp [h]
theorem sans_len (xs : List Int) (x : Int) (k : Nat) : (sansL (xs.take k) x).length ≤ k := by
  unfold sansL
  have := List.length_filter_le (fun y => y != x) (xs.take k)
  have := List.length_take_le k xs
  omega

end Go.Proofs.YtkckodpfhlpkgaaGreat
