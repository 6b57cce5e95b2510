
/- The contracts of the document's Same, and of the law's modelOf. -/
import Derived.Test.YthbagplkgmpjpaaDoorNormAwake
namespace Go.Proofs.YthbagplkgmpjpaaDoor
open Go.RowKit

end Go.Proofs.YthbagplkgmpjpaaDoor
