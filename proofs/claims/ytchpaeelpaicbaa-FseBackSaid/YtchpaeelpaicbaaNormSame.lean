
/- The contracts of the document's Same, and of the law's modelOf. -/
import Derived.Test.YtchpaeelpaicbaaNormAwake
namespace Go.Proofs.Ytchpaeelpaicbaa
open Go.RowKit

end Go.Proofs.Ytchpaeelpaicbaa
