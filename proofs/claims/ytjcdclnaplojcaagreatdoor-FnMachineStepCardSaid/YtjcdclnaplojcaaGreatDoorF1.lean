/- The model's free names of a term. -/
import Derived.Test.YtjcdclnaplojcaaGreatDoorZ0
import Derived.Test.YtjcdclnaplojcaaGreatDoorFW
namespace Go.Proofs.YtjcdclnaplojcaaGreatDoor
end Go.Proofs.YtjcdclnaplojcaaGreatDoor
