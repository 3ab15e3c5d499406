/- The contract of the model's Cuts. -/
import Derived.Test.YtliedgaefgomjaaGreatC4
import Derived.Test.YtliedgaefgomjaaGreatNC
namespace Go.Proofs.YtliedgaefgomjaaGreat
open Go.RowKit Go.Deep Cut

end Go.Proofs.YtliedgaefgomjaaGreat
