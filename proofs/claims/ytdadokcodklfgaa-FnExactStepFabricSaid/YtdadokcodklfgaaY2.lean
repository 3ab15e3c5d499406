/- The contracts of SameInterface and of the comparisons of lists of values. -/
import Derived.Test.YtdadokcodklfgaaQA
import Derived.Test.YtdadokcodklfgaaW3
import Derived.Test.YtdadokcodklfgaaB1a
import Derived.Test.YtdadokcodklfgaaB9
namespace Circ
end Circ
namespace Go.Proofs.Ytdadokcodklfgaa
open Go.RowKit Go.Deep
end Go.Proofs.Ytdadokcodklfgaa
/- The contracts of the bits of a number. -/
namespace Go.Proofs.Ytdadokcodklfgaa
open Go.RowKit Go.Deep
end Go.Proofs.Ytdadokcodklfgaa
