/- The document's roots are the tables' numbers: part RootsB. No program in it. -/
import Derived.Test.YtnhakbpalfcmfaaDoorNum
namespace Go.Proofs.YtnhakbpalfcmfaaDoor
namespace Ref
theorem b3_59 : bitsOf 59 3 = 3835390401 := by decide +kernel
theorem b3_61 : bitsOf 61 3 = 4022224774 := by decide +kernel
theorem b3_67 : bitsOf 67 3 = 264347078 := by decide +kernel
theorem b3_71 : bitsOf 71 3 = 604807628 := by decide +kernel
theorem b3_73 : bitsOf 73 3 = 770255983 := by decide +kernel
theorem b3_79 : bitsOf 79 3 = 1249150122 := by decide +kernel
theorem b3_83 : bitsOf 83 3 = 1555081692 := by decide +kernel
theorem b3_89 : bitsOf 89 3 = 1996064986 := by decide +kernel
theorem b3_97 : bitsOf 97 3 = 2554220882 := by decide +kernel
theorem b3_101 : bitsOf 101 3 = 2821834349 := by decide +kernel
theorem b3_103 : bitsOf 103 3 = 2952996808 := by decide +kernel
theorem b3_107 : bitsOf 107 3 = 3210313671 := by decide +kernel
theorem b3_109 : bitsOf 109 3 = 3336571891 := by decide +kernel
theorem b3_113 : bitsOf 113 3 = 3584528711 := by decide +kernel
theorem b3_127 : bitsOf 127 3 = 113926993 := by decide +kernel
theorem b3_131 : bitsOf 131 3 = 338241895 := by decide +kernel
theorem b3_137 : bitsOf 137 3 = 666307205 := by decide +kernel
theorem b3_139 : bitsOf 139 3 = 773529912 := by decide +kernel
theorem b3_149 : bitsOf 149 3 = 1294757372 := by decide +kernel
theorem b3_151 : bitsOf 151 3 = 1396182291 := by decide +kernel
theorem b3_157 : bitsOf 157 3 = 1695183700 := by decide +kernel
theorem b3_163 : bitsOf 163 3 = 1986661051 := by decide +kernel
theorem b3_167 : bitsOf 167 3 = 2177026350 := by decide +kernel
theorem b3_173 : bitsOf 173 3 = 2456956037 := by decide +kernel
end Ref
end Go.Proofs.YtnhakbpalfcmfaaDoor
