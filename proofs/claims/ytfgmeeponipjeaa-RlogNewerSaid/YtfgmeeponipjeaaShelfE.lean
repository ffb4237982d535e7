import Derived.Shelf.Slices.Equal
import Derived.Shelf.Slices.Empties2
import Derived.Test.YtfgmeeponipjeaaShelf
namespace Go.Proofs
end Go.Proofs
