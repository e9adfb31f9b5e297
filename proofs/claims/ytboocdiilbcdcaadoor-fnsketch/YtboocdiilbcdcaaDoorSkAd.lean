import Derived.Test.YtboocdiilbcdcaaDoorLeIa
import Derived.Test.YtboocdiilbcdcaaDoorOwnInts
import Derived.Test.YtboocdiilbcdcaaDoorRgB
namespace Go.Proofs.YtboocdiilbcdcaaDoor
/-! In a seat without the law's words on sketches: what the sketches' texts import. -/
end Go.Proofs.YtboocdiilbcdcaaDoor
