
/- The contracts of the document's Same, and of the law's modelOf. -/
import Derived.Test.YtpdnmhnnngcbjaaDoorNormAwake
namespace Go.Proofs.YtpdnmhnnngcbjaaDoor
open Go.RowKit

end Go.Proofs.YtpdnmhnnngcbjaaDoor
