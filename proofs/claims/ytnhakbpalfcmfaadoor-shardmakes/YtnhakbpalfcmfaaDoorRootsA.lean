/- The document's roots are the tables' numbers: part RootsA. No program in it. -/
import Derived.Test.YtnhakbpalfcmfaaDoorNum
namespace Go.Proofs.YtnhakbpalfcmfaaDoor
namespace Ref
theorem b2_2 : bitsOf 2 2 = 1779033703 := by decide +kernel
theorem b2_3 : bitsOf 3 2 = 3144134277 := by decide +kernel
theorem b2_5 : bitsOf 5 2 = 1013904242 := by decide +kernel
theorem b2_7 : bitsOf 7 2 = 2773480762 := by decide +kernel
theorem b2_11 : bitsOf 11 2 = 1359893119 := by decide +kernel
theorem b2_13 : bitsOf 13 2 = 2600822924 := by decide +kernel
theorem b2_17 : bitsOf 17 2 = 528734635 := by decide +kernel
theorem b2_19 : bitsOf 19 2 = 1541459225 := by decide +kernel
theorem b3_2 : bitsOf 2 3 = 1116352408 := by decide +kernel
theorem b3_3 : bitsOf 3 3 = 1899447441 := by decide +kernel
theorem b3_5 : bitsOf 5 3 = 3049323471 := by decide +kernel
theorem b3_7 : bitsOf 7 3 = 3921009573 := by decide +kernel
theorem b3_11 : bitsOf 11 3 = 961987163 := by decide +kernel
theorem b3_13 : bitsOf 13 3 = 1508970993 := by decide +kernel
theorem b3_17 : bitsOf 17 3 = 2453635748 := by decide +kernel
theorem b3_19 : bitsOf 19 3 = 2870763221 := by decide +kernel
theorem b3_23 : bitsOf 23 3 = 3624381080 := by decide +kernel
theorem b3_29 : bitsOf 29 3 = 310598401 := by decide +kernel
theorem b3_31 : bitsOf 31 3 = 607225278 := by decide +kernel
theorem b3_37 : bitsOf 37 3 = 1426881987 := by decide +kernel
theorem b3_41 : bitsOf 41 3 = 1925078388 := by decide +kernel
theorem b3_43 : bitsOf 43 3 = 2162078206 := by decide +kernel
theorem b3_47 : bitsOf 47 3 = 2614888103 := by decide +kernel
theorem b3_53 : bitsOf 53 3 = 3248222580 := by decide +kernel
end Ref
end Go.Proofs.YtnhakbpalfcmfaaDoor
