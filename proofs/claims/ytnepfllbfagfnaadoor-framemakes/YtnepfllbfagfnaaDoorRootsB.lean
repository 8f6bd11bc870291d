/- The document's roots are the tables' numbers: part RootsA. No program in it. -/
import Derived.Test.YtnepfllbfagfnaaDoorNum
namespace Go.Proofs.YtnepfllbfagfnaaDoor
namespace Ref
theorem b2_2 : bitsOf 2 2 = 1779033703 := by decide +kernel
theorem b2_3 : bitsOf 3 2 = 3144134277 := by decide +kernel
theorem b2_5 : bitsOf 5 2 = 1013904242 := by decide +kernel
theorem b2_7 : bitsOf 7 2 = 2773480762 := by decide +kernel
theorem b2_11 : bitsOf 11 2 = 1359893119 := by decide +kernel
theorem b2_13 : bitsOf 13 2 = 2600822924 := by decide +kernel
theorem b2_17 : bitsOf 17 2 = 528734635 := by decide +kernel
theorem b2_19 : bitsOf 19 2 = 1541459225 := by decide +kernel
theorem b3_2 : bitsOf 2 3 = 1116352408 := by decide +kernel
theorem b3_3 : bitsOf 3 3 = 1899447441 := by decide +kernel
theorem b3_5 : bitsOf 5 3 = 3049323471 := by decide +kernel
theorem b3_7 : bitsOf 7 3 = 3921009573 := by decide +kernel
theorem b3_11 : bitsOf 11 3 = 961987163 := by decide +kernel
theorem b3_13 : bitsOf 13 3 = 1508970993 := by decide +kernel
theorem b3_17 : bitsOf 17 3 = 2453635748 := by decide +kernel
theorem b3_19 : bitsOf 19 3 = 2870763221 := by decide +kernel
theorem b3_23 : bitsOf 23 3 = 3624381080 := by decide +kernel
theorem b3_29 : bitsOf 29 3 = 310598401 := by decide +kernel
theorem b3_31 : bitsOf 31 3 = 607225278 := by decide +kernel
theorem b3_37 : bitsOf 37 3 = 1426881987 := by decide +kernel
theorem b3_41 : bitsOf 41 3 = 1925078388 := by decide +kernel
theorem b3_43 : bitsOf 43 3 = 2162078206 := by decide +kernel
theorem b3_47 : bitsOf 47 3 = 2614888103 := by decide +kernel
theorem b3_53 : bitsOf 53 3 = 3248222580 := by decide +kernel
end Ref
end Go.Proofs.YtnepfllbfagfnaaDoor
/- The document's roots are the tables' numbers: part RootsB. No program in it. -/
namespace Go.Proofs.YtnepfllbfagfnaaDoor
namespace Ref
theorem b3_59 : bitsOf 59 3 = 3835390401 := by decide +kernel
theorem b3_61 : bitsOf 61 3 = 4022224774 := by decide +kernel
theorem b3_67 : bitsOf 67 3 = 264347078 := by decide +kernel
theorem b3_71 : bitsOf 71 3 = 604807628 := by decide +kernel
theorem b3_73 : bitsOf 73 3 = 770255983 := by decide +kernel
theorem b3_79 : bitsOf 79 3 = 1249150122 := by decide +kernel
theorem b3_83 : bitsOf 83 3 = 1555081692 := by decide +kernel
theorem b3_89 : bitsOf 89 3 = 1996064986 := by decide +kernel
theorem b3_97 : bitsOf 97 3 = 2554220882 := by decide +kernel
theorem b3_101 : bitsOf 101 3 = 2821834349 := by decide +kernel
theorem b3_103 : bitsOf 103 3 = 2952996808 := by decide +kernel
theorem b3_107 : bitsOf 107 3 = 3210313671 := by decide +kernel
theorem b3_109 : bitsOf 109 3 = 3336571891 := by decide +kernel
theorem b3_113 : bitsOf 113 3 = 3584528711 := by decide +kernel
theorem b3_127 : bitsOf 127 3 = 113926993 := by decide +kernel
theorem b3_131 : bitsOf 131 3 = 338241895 := by decide +kernel
theorem b3_137 : bitsOf 137 3 = 666307205 := by decide +kernel
theorem b3_139 : bitsOf 139 3 = 773529912 := by decide +kernel
theorem b3_149 : bitsOf 149 3 = 1294757372 := by decide +kernel
theorem b3_151 : bitsOf 151 3 = 1396182291 := by decide +kernel
theorem b3_157 : bitsOf 157 3 = 1695183700 := by decide +kernel
theorem b3_163 : bitsOf 163 3 = 1986661051 := by decide +kernel
theorem b3_167 : bitsOf 167 3 = 2177026350 := by decide +kernel
theorem b3_173 : bitsOf 173 3 = 2456956037 := by decide +kernel
end Ref
end Go.Proofs.YtnepfllbfagfnaaDoor
