/- A law's check of all edges: right. -/
import Derived.Test.YtelpoocgmflofaaGsta
namespace Go.Proofs.Ytelpoocgmflofaa
open Go.RowKit GatM

end Go.Proofs.Ytelpoocgmflofaa
