/- The contract of the model's Cuts. -/
import Derived.Test.YthcpgbfghededaaC4
import Derived.Test.YthcpgbfghededaaNC
namespace Go.Proofs.Ythcpgbfghededaa
open Go.RowKit Go.Deep Cut

end Go.Proofs.Ythcpgbfghededaa
