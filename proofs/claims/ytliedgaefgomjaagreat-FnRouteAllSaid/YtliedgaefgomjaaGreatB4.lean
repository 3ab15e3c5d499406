/- The contracts of the test of an assignment and of the set of true variables. -/
import Derived.Test.YtliedgaefgomjaaGreatB1
namespace Go.Proofs.YtliedgaefgomjaaGreat
open Go.RowKit Go.Deep

end Go.Proofs.YtliedgaefgomjaaGreat
