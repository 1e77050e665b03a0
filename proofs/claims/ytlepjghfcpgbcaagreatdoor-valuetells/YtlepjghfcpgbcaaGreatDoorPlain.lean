/- Nothing here speaks of the Go text. -/
import Derived.WalkKit
namespace Go.Proofs.YtlepjghfcpgbcaaGreatDoor.Tr
end Go.Proofs.YtlepjghfcpgbcaaGreatDoor.Tr
