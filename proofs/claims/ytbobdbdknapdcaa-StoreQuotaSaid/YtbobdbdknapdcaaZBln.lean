/- The reference's Blank. -/
import Derived.Test.YtbobdbdknapdcaaZ0
namespace Go.Proofs.Ytbobdbdknapdcaa
open Go.RowKit
set_option linter.unusedVariables false

end Go.Proofs.Ytbobdbdknapdcaa
