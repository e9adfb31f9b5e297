import Derived.Test.YtboocdiilbcdcaaLeIa
import Derived.Test.YtboocdiilbcdcaaOwn
import Derived.Test.YtboocdiilbcdcaaDgP
namespace Go.Proofs.Ytboocdiilbcdcaa
/-! In a seat without the law's words on digests: what the digests' texts import. -/
end Go.Proofs.Ytboocdiilbcdcaa
