/- Nothing here speaks of the Go text. -/
import Derived.WalkKit
namespace Go.Proofs.YtniailfcmlongaaGreatDoor.Tr
end Go.Proofs.YtniailfcmlongaaGreatDoor.Tr
