/- The contract of the model's Cuts. -/
import Derived.Test.YtliaommpnaagiaaC4
import Derived.Test.YtliaommpnaagiaaNC
namespace Go.Proofs.Ytliaommpnaagiaa
open Go.RowKit Go.Deep Cut

end Go.Proofs.Ytliaommpnaagiaa
