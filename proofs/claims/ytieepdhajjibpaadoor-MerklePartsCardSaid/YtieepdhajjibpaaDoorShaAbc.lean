
/- The digest of abc begins with ba and ends with ad. -/
import Derived.Test.YtieepdhajjibpaaDoorShaWords
import Derived.Test.YtieepdhajjibpaaDoorShaSpec
import Derived.KernelRfl
namespace Go.Proofs.YtieepdhajjibpaaDoor
open Go.RowKit
theorem abc0 : ((shaOf kw [97, 98, 99]).getD 0 0) = 0xba := by kernel_rfl
theorem abc31 : ((shaOf kw [97, 98, 99]).getD 31 0) = 0xad := by kernel_rfl
end Go.Proofs.YtieepdhajjibpaaDoor
