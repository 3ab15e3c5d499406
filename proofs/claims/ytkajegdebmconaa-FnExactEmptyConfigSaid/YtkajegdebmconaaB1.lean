/- The contracts of lists of truth values: copy, comparison. -/
import Derived.Test.YtkajegdebmconaaB1a
namespace Go.Proofs.Ytkajegdebmconaa
open Go.RowKit Go.Deep

end Go.Proofs.Ytkajegdebmconaa
/- The contracts of the marks on truth values. -/
namespace Go.Proofs.Ytkajegdebmconaa
open Go.RowKit Go.Deep

end Go.Proofs.Ytkajegdebmconaa
/- The contracts of the bit set: truth values put into it. -/
namespace Go.Proofs.Ytkajegdebmconaa
open Go.RowKit Go.Deep

end Go.Proofs.Ytkajegdebmconaa
