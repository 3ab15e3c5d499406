/- The contract of sameInts. -/
import Derived.Test.YtliaommpnaagiaaW6
namespace Go.Proofs.Ytliaommpnaagiaa
open Go.RowKit Go.Deep

end Go.Proofs.Ytliaommpnaagiaa
