/- The contracts of strings.Builder's writers and readers, off the library's shelf, laid at this program by a table of numbers. -/
import Derived.Shelf.Strings.Builder1
import Derived.Shelf.Strings.BuilderF
import Derived.Shelf.Strings.BuilderK
import Derived.Shelf.Strings.BuilderRune
import Derived.Shelf.Strings.OnBuilder
import Derived.Test.YtpefcbpapmfejaaProg

set_option maxRecDepth 20000
namespace Go.Proofs.Ytpefcbpapmfejaa
open Go.Shelf Go.RowKit


end Go.Proofs.Ytpefcbpapmfejaa
