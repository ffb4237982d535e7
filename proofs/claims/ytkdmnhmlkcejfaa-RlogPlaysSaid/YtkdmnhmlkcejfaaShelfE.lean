import Derived.Shelf.Slices.Equal
import Derived.Shelf.Slices.Empties2
import Derived.Test.YtkdmnhmlkcejfaaShelf
namespace Go.Proofs
end Go.Proofs
