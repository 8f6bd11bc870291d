/- The document's roots are the tables' numbers: part RootsA. No program in it. -/
import Derived.Test.YtjhjolnflkekoaaDoorSNum
namespace Go.Proofs.YtjhjolnflkekoaaDoor.S
namespace Ref
theorem b2_2 : bitsOf 2 2 = 1779033703 := by decide +kernel
theorem b2_3 : bitsOf 3 2 = 3144134277 := by decide +kernel
theorem b2_5 : bitsOf 5 2 = 1013904242 := by decide +kernel
theorem b2_7 : bitsOf 7 2 = 2773480762 := by decide +kernel
theorem b2_11 : bitsOf 11 2 = 1359893119 := by decide +kernel
theorem b2_13 : bitsOf 13 2 = 2600822924 := by decide +kernel
theorem b2_17 : bitsOf 17 2 = 528734635 := by decide +kernel
theorem b2_19 : bitsOf 19 2 = 1541459225 := by decide +kernel
theorem b3_2 : bitsOf 2 3 = 1116352408 := by decide +kernel
theorem b3_3 : bitsOf 3 3 = 1899447441 := by decide +kernel
theorem b3_5 : bitsOf 5 3 = 3049323471 := by decide +kernel
theorem b3_7 : bitsOf 7 3 = 3921009573 := by decide +kernel
theorem b3_11 : bitsOf 11 3 = 961987163 := by decide +kernel
theorem b3_13 : bitsOf 13 3 = 1508970993 := by decide +kernel
theorem b3_17 : bitsOf 17 3 = 2453635748 := by decide +kernel
theorem b3_19 : bitsOf 19 3 = 2870763221 := by decide +kernel
theorem b3_23 : bitsOf 23 3 = 3624381080 := by decide +kernel
theorem b3_29 : bitsOf 29 3 = 310598401 := by decide +kernel
theorem b3_31 : bitsOf 31 3 = 607225278 := by decide +kernel
theorem b3_37 : bitsOf 37 3 = 1426881987 := by decide +kernel
theorem b3_41 : bitsOf 41 3 = 1925078388 := by decide +kernel
theorem b3_43 : bitsOf 43 3 = 2162078206 := by decide +kernel
theorem b3_47 : bitsOf 47 3 = 2614888103 := by decide +kernel
theorem b3_53 : bitsOf 53 3 = 3248222580 := by decide +kernel
end Ref
end Go.Proofs.YtjhjolnflkekoaaDoor.S
/- The document's roots are the tables' numbers: part RootsB. No program in it. -/
namespace Go.Proofs.YtjhjolnflkekoaaDoor.S
namespace Ref
theorem b3_59 : bitsOf 59 3 = 3835390401 := by decide +kernel
theorem b3_61 : bitsOf 61 3 = 4022224774 := by decide +kernel
theorem b3_67 : bitsOf 67 3 = 264347078 := by decide +kernel
theorem b3_71 : bitsOf 71 3 = 604807628 := by decide +kernel
theorem b3_73 : bitsOf 73 3 = 770255983 := by decide +kernel
theorem b3_79 : bitsOf 79 3 = 1249150122 := by decide +kernel
theorem b3_83 : bitsOf 83 3 = 1555081692 := by decide +kernel
theorem b3_89 : bitsOf 89 3 = 1996064986 := by decide +kernel
theorem b3_97 : bitsOf 97 3 = 2554220882 := by decide +kernel
theorem b3_101 : bitsOf 101 3 = 2821834349 := by decide +kernel
theorem b3_103 : bitsOf 103 3 = 2952996808 := by decide +kernel
theorem b3_107 : bitsOf 107 3 = 3210313671 := by decide +kernel
theorem b3_109 : bitsOf 109 3 = 3336571891 := by decide +kernel
theorem b3_113 : bitsOf 113 3 = 3584528711 := by decide +kernel
theorem b3_127 : bitsOf 127 3 = 113926993 := by decide +kernel
theorem b3_131 : bitsOf 131 3 = 338241895 := by decide +kernel
theorem b3_137 : bitsOf 137 3 = 666307205 := by decide +kernel
theorem b3_139 : bitsOf 139 3 = 773529912 := by decide +kernel
theorem b3_149 : bitsOf 149 3 = 1294757372 := by decide +kernel
theorem b3_151 : bitsOf 151 3 = 1396182291 := by decide +kernel
theorem b3_157 : bitsOf 157 3 = 1695183700 := by decide +kernel
theorem b3_163 : bitsOf 163 3 = 1986661051 := by decide +kernel
theorem b3_167 : bitsOf 167 3 = 2177026350 := by decide +kernel
theorem b3_173 : bitsOf 173 3 = 2456956037 := by decide +kernel
end Ref
end Go.Proofs.YtjhjolnflkekoaaDoor.S
/- The document's roots are the tables' numbers: part RootsC. No program in it. -/
namespace Go.Proofs.YtjhjolnflkekoaaDoor.S
namespace Ref
theorem b3_179 : bitsOf 179 3 = 2730485921 := by decide +kernel
theorem b3_181 : bitsOf 181 3 = 2820302411 := by decide +kernel
theorem b3_191 : bitsOf 191 3 = 3259730800 := by decide +kernel
theorem b3_193 : bitsOf 193 3 = 3345764771 := by decide +kernel
theorem b3_197 : bitsOf 197 3 = 3516065817 := by decide +kernel
theorem b3_199 : bitsOf 199 3 = 3600352804 := by decide +kernel
theorem b3_211 : bitsOf 211 3 = 4094571909 := by decide +kernel
theorem b3_223 : bitsOf 223 3 = 275423344 := by decide +kernel
theorem b3_227 : bitsOf 227 3 = 430227734 := by decide +kernel
theorem b3_229 : bitsOf 229 3 = 506948616 := by decide +kernel
theorem b3_233 : bitsOf 233 3 = 659060556 := by decide +kernel
theorem b3_239 : bitsOf 239 3 = 883997877 := by decide +kernel
theorem b3_241 : bitsOf 241 3 = 958139571 := by decide +kernel
theorem b3_251 : bitsOf 251 3 = 1322822218 := by decide +kernel
theorem b3_257 : bitsOf 257 3 = 1537002063 := by decide +kernel
theorem b3_263 : bitsOf 263 3 = 1747873779 := by decide +kernel
theorem b3_269 : bitsOf 269 3 = 1955562222 := by decide +kernel
theorem b3_271 : bitsOf 271 3 = 2024104815 := by decide +kernel
theorem b3_277 : bitsOf 277 3 = 2227730452 := by decide +kernel
theorem b3_281 : bitsOf 281 3 = 2361852424 := by decide +kernel
theorem b3_283 : bitsOf 283 3 = 2428436474 := by decide +kernel
theorem b3_293 : bitsOf 293 3 = 2756734187 := by decide +kernel
theorem b3_307 : bitsOf 307 3 = 3204031479 := by decide +kernel
theorem b3_311 : bitsOf 311 3 = 3329325298 := by decide +kernel
end Ref
end Go.Proofs.YtjhjolnflkekoaaDoor.S
/- The document's roots are the tables' numbers. No program in it. -/
namespace Go.Proofs.YtjhjolnflkekoaaDoor.S
namespace Ref
def initL : List Nat := [1779033703, 3144134277, 1013904242, 2773480762, 1359893119, 2600822924, 528734635, 1541459225]
theorem sq_all : ∀ i, i < 8 → bitsOf (primes.getD i 0) 2 = initL.getD i 0
  | 0, _ => b2_2
  | 1, _ => b2_3
  | 2, _ => b2_5
  | 3, _ => b2_7
  | 4, _ => b2_11
  | 5, _ => b2_13
  | 6, _ => b2_17
  | 7, _ => b2_19
  | n + 8, h => absurd h (by omega)
theorem cu_all : ∀ i, i < 64 → bitsOf (primes.getD i 0) 3 = Sha.cube.getD i 0
  | 0, _ => b3_2
  | 1, _ => b3_3
  | 2, _ => b3_5
  | 3, _ => b3_7
  | 4, _ => b3_11
  | 5, _ => b3_13
  | 6, _ => b3_17
  | 7, _ => b3_19
  | 8, _ => b3_23
  | 9, _ => b3_29
  | 10, _ => b3_31
  | 11, _ => b3_37
  | 12, _ => b3_41
  | 13, _ => b3_43
  | 14, _ => b3_47
  | 15, _ => b3_53
  | 16, _ => b3_59
  | 17, _ => b3_61
  | 18, _ => b3_67
  | 19, _ => b3_71
  | 20, _ => b3_73
  | 21, _ => b3_79
  | 22, _ => b3_83
  | 23, _ => b3_89
  | 24, _ => b3_97
  | 25, _ => b3_101
  | 26, _ => b3_103
  | 27, _ => b3_107
  | 28, _ => b3_109
  | 29, _ => b3_113
  | 30, _ => b3_127
  | 31, _ => b3_131
  | 32, _ => b3_137
  | 33, _ => b3_139
  | 34, _ => b3_149
  | 35, _ => b3_151
  | 36, _ => b3_157
  | 37, _ => b3_163
  | 38, _ => b3_167
  | 39, _ => b3_173
  | 40, _ => b3_179
  | 41, _ => b3_181
  | 42, _ => b3_191
  | 43, _ => b3_193
  | 44, _ => b3_197
  | 45, _ => b3_199
  | 46, _ => b3_211
  | 47, _ => b3_223
  | 48, _ => b3_227
  | 49, _ => b3_229
  | 50, _ => b3_233
  | 51, _ => b3_239
  | 52, _ => b3_241
  | 53, _ => b3_251
  | 54, _ => b3_257
  | 55, _ => b3_263
  | 56, _ => b3_269
  | 57, _ => b3_271
  | 58, _ => b3_277
  | 59, _ => b3_281
  | 60, _ => b3_283
  | 61, _ => b3_293
  | 62, _ => b3_307
  | 63, _ => b3_311
  | n + 64, h => absurd h (by omega)
end Ref
end Go.Proofs.YtjhjolnflkekoaaDoor.S
