/- Contracts of NumberOf, of the program and of the model: at every text both answer numV of it and whether it is a number's text. -/
import Derived.Test.YthhhhfpgmolcmabOk
namespace Go.Proofs.Ythhhhfpgmolcmab
open Go.RowKit

end Go.Proofs.Ythhhhfpgmolcmab
