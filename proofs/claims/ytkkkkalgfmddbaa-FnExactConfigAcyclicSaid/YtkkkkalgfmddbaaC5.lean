/- The contract of the model's Cuts. -/
import Derived.Test.YtkkkkalgfmddbaaC4
import Derived.Test.YtkkkkalgfmddbaaNC
namespace Go.Proofs.Ytkkkkalgfmddbaa
open Go.RowKit Go.Deep Cut

end Go.Proofs.Ytkkkkalgfmddbaa
