/- Contracts of the model's lesser of two numbers. -/
import Derived.Test.YtpenjbpcebfecaaM0
import Derived.Test.YtpenjbpcebfecaaProg
import Derived.WalkKit
import Derived.WalkSpells

set_option maxRecDepth 20000
namespace Go.Proofs.Ytpenjbpcebfecaa
open Go.RowKit


end Go.Proofs.Ytpenjbpcebfecaa
