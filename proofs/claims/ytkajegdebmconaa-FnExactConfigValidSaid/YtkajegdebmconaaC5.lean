/- The contract of the model's Cuts. -/
import Derived.Test.YtkajegdebmconaaC4
import Derived.Test.YtkajegdebmconaaNC
namespace Go.Proofs.Ytkajegdebmconaa
open Go.RowKit Go.Deep Cut

end Go.Proofs.Ytkajegdebmconaa
