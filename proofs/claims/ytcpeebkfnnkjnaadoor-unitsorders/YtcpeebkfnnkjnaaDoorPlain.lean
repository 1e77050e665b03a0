/- Nothing here speaks of the Go text. -/
import Derived.WalkKit
namespace Go.Proofs.YtcpeebkfnnkjnaaDoor.Tr
end Go.Proofs.YtcpeebkfnnkjnaaDoor.Tr
