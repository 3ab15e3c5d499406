/- The contract of the model's Cuts. -/
import Derived.Test.YtliaommpnaagiaaGreatC4
import Derived.Test.YtliaommpnaagiaaGreatNC
namespace Go.Proofs.YtliaommpnaagiaaGreat
open Go.RowKit Go.Deep Cut

end Go.Proofs.YtliaommpnaagiaaGreat
