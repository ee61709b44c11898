/- Contracts of the model's lesser of two numbers. -/
import Derived.Test.YtpefcbpapmfejaaM0
import Derived.Test.YtpefcbpapmfejaaProg
import Derived.WalkKit
import Derived.WalkSpells

set_option maxRecDepth 20000
namespace Go.Proofs.Ytpefcbpapmfejaa
open Go.RowKit


end Go.Proofs.Ytpefcbpapmfejaa
