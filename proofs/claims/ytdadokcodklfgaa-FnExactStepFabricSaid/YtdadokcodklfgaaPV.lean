/- PlacementValid of the program and of the model. -/
import Derived.Test.YtdadokcodklfgaaNS
import Derived.Test.YtdadokcodklfgaaQP
namespace Plc
end Plc
namespace Go.Proofs.Ytdadokcodklfgaa
open Go.RowKit Go.Deep Cut

end Go.Proofs.Ytdadokcodklfgaa
