import Derived.Shelf.Slices.Equal
import Derived.Shelf.Slices.Empties2
import Derived.Test.YtbjjfidjggagnaaShelf
namespace Go.Proofs
end Go.Proofs
