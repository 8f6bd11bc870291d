/- The document's roots are the tables' numbers: part RootsC. No program in it. -/
import Derived.Test.YtnhakbpalfcmfaaDoorNum
namespace Go.Proofs.YtnhakbpalfcmfaaDoor
namespace Ref
theorem b3_179 : bitsOf 179 3 = 2730485921 := by decide +kernel
theorem b3_181 : bitsOf 181 3 = 2820302411 := by decide +kernel
theorem b3_191 : bitsOf 191 3 = 3259730800 := by decide +kernel
theorem b3_193 : bitsOf 193 3 = 3345764771 := by decide +kernel
theorem b3_197 : bitsOf 197 3 = 3516065817 := by decide +kernel
theorem b3_199 : bitsOf 199 3 = 3600352804 := by decide +kernel
theorem b3_211 : bitsOf 211 3 = 4094571909 := by decide +kernel
theorem b3_223 : bitsOf 223 3 = 275423344 := by decide +kernel
theorem b3_227 : bitsOf 227 3 = 430227734 := by decide +kernel
theorem b3_229 : bitsOf 229 3 = 506948616 := by decide +kernel
theorem b3_233 : bitsOf 233 3 = 659060556 := by decide +kernel
theorem b3_239 : bitsOf 239 3 = 883997877 := by decide +kernel
theorem b3_241 : bitsOf 241 3 = 958139571 := by decide +kernel
theorem b3_251 : bitsOf 251 3 = 1322822218 := by decide +kernel
theorem b3_257 : bitsOf 257 3 = 1537002063 := by decide +kernel
theorem b3_263 : bitsOf 263 3 = 1747873779 := by decide +kernel
theorem b3_269 : bitsOf 269 3 = 1955562222 := by decide +kernel
theorem b3_271 : bitsOf 271 3 = 2024104815 := by decide +kernel
theorem b3_277 : bitsOf 277 3 = 2227730452 := by decide +kernel
theorem b3_281 : bitsOf 281 3 = 2361852424 := by decide +kernel
theorem b3_283 : bitsOf 283 3 = 2428436474 := by decide +kernel
theorem b3_293 : bitsOf 293 3 = 2756734187 := by decide +kernel
theorem b3_307 : bitsOf 307 3 = 3204031479 := by decide +kernel
theorem b3_311 : bitsOf 311 3 = 3329325298 := by decide +kernel
end Ref
end Go.Proofs.YtnhakbpalfcmfaaDoor
