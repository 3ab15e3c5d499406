/- The contract of the model's rebuilding. -/
import Derived.Test.YthpiddpkcmecfaaU6t
import Derived.Test.YthpiddpkcmecfaaU6f
namespace Go.Proofs.Ythpiddpkcmecfaa
open Go.RowKit Go.Deep Go.Maps Go.WideMaps
theorem sbuild_any (share : Bool) (i : Int) (nA gA oA : Option Addr) (nc gc oc nl gl ol f : Nat) (c : Opt.C) (w : World) (hc : CircAt w w.heap.size nA gA oA (Opt.intL c.ns) (Opt.intG c.gs) (Opt.intL c.os)) (hF : Fits i f nl gl ol c) :
    Calls Try.prog 50 #[.agg #[.int .i64 i, .slice nA nl nc, .slice gA gl gc, .slice oA ol oc], .bool share] w (SBOut w i nl ol (Opt.bld share f c)) := by
  cases hs : share
  · exact sbuild_f false rfl i nA gA oA nc gc oc nl gl ol f c w hc hF
  · exact sbuild_t true rfl i nA gA oA nc gc oc nl gl ol f c w hc hF
end Go.Proofs.Ythpiddpkcmecfaa
