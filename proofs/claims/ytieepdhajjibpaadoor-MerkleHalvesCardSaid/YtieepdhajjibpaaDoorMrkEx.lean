
/- The digests of the document's example: the manifest of abcde in parts of 2 is not known by 1, 0, 0, .. -/
import Derived.Test.YtieepdhajjibpaaDoorMrkOf
import Derived.Test.YtieepdhajjibpaaDoorMrkId
import Derived.KernelRfl
namespace Go.Proofs.YtieepdhajjibpaaDoor
open Go.RowKit

theorem exL1 : shaOf kw [0, 97, 98] = [11, 209, 218, 154, 95, 91, 20, 175, 37, 130, 177, 102, 37, 130, 87, 228, 22, 234, 62, 106, 37, 223, 191, 62, 128, 158, 102, 46, 15, 253, 101, 66] := by kernel_rfl
theorem exL2 : shaOf kw [0, 99, 100] = [96, 134, 49, 225, 10, 172, 188, 122, 143, 71, 125, 131, 38, 106, 218, 3, 239, 44, 202, 117, 155, 189, 124, 168, 249, 204, 53, 224, 70, 150, 187, 173] := by kernel_rfl
theorem exL3 : shaOf kw [0, 101] = [40, 36, 167, 204, 218, 44, 170, 114, 12, 133, 201, 251, 161, 232, 181, 183, 53, 238, 207, 219, 3, 135, 142, 79, 141, 254, 108, 54, 37, 3, 11, 196] := by kernel_rfl
theorem exN1 : shaOf kw (1 :: ([11, 209, 218, 154, 95, 91, 20, 175, 37, 130, 177, 102, 37, 130, 87, 228, 22, 234, 62, 106, 37, 223, 191, 62, 128, 158, 102, 46, 15, 253, 101, 66] ++ [96, 134, 49, 225, 10, 172, 188, 122, 143, 71, 125, 131, 38, 106, 218, 3, 239, 44, 202, 117, 155, 189, 124, 168, 249, 204, 53, 224, 70, 150, 187, 173])) = [3, 120, 206, 206, 243, 246, 29, 96, 37, 189, 55, 159, 126, 242, 159, 59, 144, 169, 148, 88, 161, 44, 126, 206, 233, 182, 22, 42, 246, 142, 100, 227] := by kernel_rfl
theorem exN2 : shaOf kw (1 :: ([3, 120, 206, 206, 243, 246, 29, 96, 37, 189, 55, 159, 126, 242, 159, 59, 144, 169, 148, 88, 161, 44, 126, 206, 233, 182, 22, 42, 246, 142, 100, 227] ++ [40, 36, 167, 204, 218, 44, 170, 114, 12, 133, 201, 251, 161, 232, 181, 183, 53, 238, 207, 219, 3, 135, 142, 79, 141, 254, 108, 54, 37, 3, 11, 196])) = [142, 217, 131, 32, 166, 14, 134, 196, 108, 36, 77, 211, 189, 17, 146, 142, 152, 189, 220, 16, 216, 83, 122, 12, 26, 207, 153, 23, 220, 19, 118, 203] := by kernel_rfl
theorem exId : (shaOf kw (2 :: (put 5 8 ++ put 2 4 ++ [142, 217, 131, 32, 166, 14, 134, 196, 108, 36, 77, 211, 189, 17, 146, 142, 152, 189, 220, 16, 216, 83, 122, 12, 26, 207, 153, 23, 220, 19, 118, 203]))).getD 1 0 = 179 := by kernel_rfl
theorem ex_lvs : lvs [97, 98, 99, 100, 101] 2 3 = [leafD [97, 98], leafD [99, 100], leafD [101]] := rfl
theorem root_three (a b c : Dg) : rootL [a, b, c] = nodeD (nodeD a b) c := by
  have h1 := root_join (a := [a, b]) (b := [c]) (e := 1) rfl (by simp) (by simp)
  have h2 := root_join (a := [a]) (b := [b]) (e := 0) rfl (by simp) (by simp)
  simp only [List.cons_append, List.nil_append, root_one] at h1 h2
  rw [h1, h2]
theorem ex_id : (idD 5 2 (lvs [97, 98, 99, 100, 101] 2 3)).1.getD 1 0 = 179 := by
  rw [ex_lvs]
  simp only [idD, shaD, idL, root_three, nodeD, leafD, exL1, exL2, exL3]
  rw [exN1, exN2, exId]
end Go.Proofs.YtieepdhajjibpaaDoor
