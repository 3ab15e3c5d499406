/- The contract of the model's cells. -/
import Derived.Test.YtdadokcodklfgaaCT
namespace Go.Proofs.Ytdadokcodklfgaa
open Go.RowKit Go.Deep Cut

end Go.Proofs.Ytdadokcodklfgaa
