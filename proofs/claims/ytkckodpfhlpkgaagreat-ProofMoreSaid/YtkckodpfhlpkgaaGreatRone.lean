/- Contracts of the plain answers' One, Var. -/
import Derived.Test.YtkckodpfhlpkgaaGreatVar
namespace Go.Proofs.YtkckodpfhlpkgaaGreat
open Go.RowKit LitM

end Go.Proofs.YtkckodpfhlpkgaaGreat
