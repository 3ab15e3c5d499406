/- MapLuts of any circuit, both sides; contains. -/
import Derived.Test.YtdadokcodklfgaaNC
import Derived.Test.YtdadokcodklfgaaN7
import Derived.Test.YtdadokcodklfgaaQD
namespace Go.Proofs.Ytdadokcodklfgaa
open Go.RowKit Go.Deep Cut

end Go.Proofs.Ytdadokcodklfgaa
