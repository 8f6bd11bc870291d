/- CodeAny is true of every code, every blob, all numbers: what Encode cuts, any K of the payloads bring back; a payload changed beyond K is found. No condition behind it. -/
import Derived.Test.YtfbjpgcgdhhfnaaRows
import Derived.Test.YtfbjpgcgdhhfnaaCAny
import Derived.Test.YtfbjpgcgdhhfnaaCOpen
namespace Go.Proofs.Ytfbjpgcgdhhfnaa
open Go.RowKit
theorem anys_walk (K N more bad : Int) (b : List Nat) (vz : Value) (zs : List Int) (x : Nat) (w : World) (hz : Ints64 w vz zs) (hb : ∀ y ∈ b, y < 256) (hx : x < 256) :
    Calls Try.prog 6 #[cv K N, .string (ofBs b), vz, .int .i64 more, .int .i64 bad, .int .u8 (x : Int)] w fun e w' => e = .returned (.bool true) ∧ Below w.heap.size w w' := by
  by_cases hbig : 3000 < b.length ∨ 100 < zs.length
  · exact big_walk K N more bad b vz zs x w hz hbig
  · cases hm : Mx.mayC K N with
    | false => exact bad_walk K N more bad b vz zs x w hz hb (by omega) (by omega) hm
    | true =>
      obtain ⟨k, n, rfl, rfl, h1, h2, h3⟩ := mayC_facts hm
      exact any_walk k n more bad b vz zs x w h1 h2 h3 hz hb (by omega) (by omega) hx
end Go.Proofs.Ytfbjpgcgdhhfnaa
namespace Go.Proofs.Ytfbjpgcgdhhfnaa.codeAny
open Go.ChangeShapes Go.WideShapes Go.ChangeAt Go.RowKit Go.Joins Go.WideMaps Go.WideElems
open Go.ChangeMaps (open_string shut_string)
set_option linter.unusedVariables false
set_option maxRecDepth 100000 in
theorem lifted (os : Os) (started : os.Started) (H : Type) (enc : TypeId × Value → H) :
    ReturnsInHanded {} Try.checked os 6 .any (Rows.codeAnySpec.pre6 enc Try.prog Try.f6 Rows.codeAnyRow.domain false) (Rows.codeAnySpec.post enc Try.prog Try.f6 false true false false) := by
  refine returnsInHanded_of_change (C := Try.checked) own started (by kernel_rfl) Try.func6
    (ChangeSpec.witness6 (enc := enc) (C := Try.checked) false ⟨#[], #[.agg #[.int .i64 0, .int .i64 0], .string ⟨#[]⟩, .slice none 0 0, .int .i64 0, .int .i64 0, .int .u8 0], []⟩ 8 (by kernel_rfl) (by kernel_rfl) (by kernel_rfl) (by kernel_rfl)) ?_
  intro W base args ds gs before hval0 hW hcnd _
  have hval : ∀ (j : Nat) t v, Try.f6.params[j]? = some t → args[j]? = some v → Value.okWide Try.prog W .any base t v := hval0
  have hW' := hW
  obtain ⟨p, q, hA0, hV, rfl, hfz, hnd⟩ := hW
  have hA : DataW.TrodAll enc Try.prog W 0 (fun _ => true) true Try.f6.params.toList args.toList ds p := hA0
  rw [Try.params6] at hA hval
  obtain ⟨v0, vs0, d0, ds0, p0, q0, hargs, rfl, rfl, h0, r0⟩ := trodAll_cons hA
  obtain ⟨v1, vs1, d1, ds1, p1, q1, rfl, rfl, rfl, h1, r1⟩ := trodAll_cons r0
  obtain ⟨v2, vs2, d2, ds2, p2, q2, rfl, rfl, rfl, h2, r2⟩ := trodAll_cons r1
  obtain ⟨v3, vs3, d3, ds3, p3, q3, rfl, rfl, rfl, h3, r3⟩ := trodAll_cons r2
  obtain ⟨v4, vs4, d4, ds4, p4, q4, rfl, rfl, rfl, h4, r4⟩ := trodAll_cons r3
  obtain ⟨v5, vs5, d5, ds5, p5, q5, rfl, rfl, rfl, h5, r5⟩ := trodAll_cons r4
  obtain ⟨rfl, rfl, rfl⟩ := trodAll_nil r5
  obtain rfl : args = #[v0, v1, v2, v3, v4, v5] := by cases args; simp_all
  obtain ⟨rfl, rfl⟩ := trodVars_none hV
  have h0k := h0
  obtain ⟨K, N, rfl⟩ := open_code (hval 0 24 v0 rfl rfl) h0
  obtain ⟨s, rfl, rfl, rfl, hs⟩ := open_string Try.underlying9 (hval 1 9 v1 rfl rfl) h1
  obtain ⟨zs, hzs⟩ := open_list (hval 2 32 v2 rfl rfl) h2
  obtain ⟨a3, rfl, rfl, rfl, w3⟩ := open_int Try.underlying3 (hval 3 3 v3 rfl rfl) h3
  obtain ⟨a4, rfl, rfl, rfl, w4⟩ := open_int Try.underlying3 (hval 4 3 v4 rfl rfl) h4
  obtain ⟨a5, rfl, rfl, rfl, w5⟩ := open_int Try.underlying5 (hval 5 5 v5 rfl rfl) h5
  have hu5 : 0 ≤ a5 ∧ a5 ≤ 255 := bounds_u8 w5
  obtain ⟨x, rfl⟩ : ∃ x : Nat, a5 = (x : Int) := ⟨a5.toNat, by omega⟩
  clear hA0 hval0
  simp only [List.append_nil] at hW'
  have hlt : ∀ y ∈ p0 ++ ([] ++ p2), y.block < W.heap.size := fun y hy => by simpa using hW'.lt y (by simpa using hy)
  have hw := anys_walk K N a3 a4 (bs s) v2 zs x W hzs (bs_lt s) (by omega)
  rw [ofBs_bs] at hw
  refine hw.mono fun e W' ⟨he, hg⟩ => ?_
  subst he
  exact ⟨_, rfl, _, _, _, [], p0 ++ ([] ++ (p2 ++ ([] ++ ([] ++ ([] ++ []))))), [], hW', trodAll_cons_mk (shut_bool Try.underlying4 _) trodAll_mk0,
    trodAll_cons_mk (Below.trod laidOut (by kernel_rfl) (of_decide_eq_true (by kernel_rfl)) h0k hg (fun y hy => hlt y (by simp [hy])))
    (trodAll_cons_mk (shut_string Try.underlying9 hs)
    (trodAll_cons_mk (Below.trod laidOut (by kernel_rfl) (of_decide_eq_true (by kernel_rfl)) h2 hg (fun y hy => hlt y (by simp [hy])))
    (trodAll_cons_mk (shut_int Try.underlying3 w3)
    (trodAll_cons_mk (shut_int Try.underlying3 w4)
    (trodAll_cons_mk (shut_int Try.underlying5 w5) trodAll_mk0))))), rfl, hg.frame _, fun h => by cases h⟩

theorem over : Rows.codeAnyRow.holds Try.pinned (OpenSpec.ofChange Rows.codeAnySpec) :=
  OpenClaim.holds_of_wide 6 Try.f6 rfl rfl rfl rfl rfl rfl rfl ⟨rfl, rfl, rfl, rfl, rfl⟩ rfl rfl rfl rfl rfl (by kernel_rfl) Try.func6 (by kernel_rfl)
    (of_decide_eq_true (by kernel_rfl)) (by unfold Func.isWrapper; first | (rw [if_pos (by decide +kernel)]; kernel_rfl) | (rw [if_neg (by decide +kernel)]; exact ⟨rfl, rfl⟩))
    (fun os started H enc _ => lifted os started H enc)

end Go.Proofs.Ytfbjpgcgdhhfnaa.codeAny
namespace Go.Proofs.Ytfbjpgcgdhhfnaa
theorem codeAny_holds : Rows.CodeAnySaid := codeAny.over
#print axioms codeAny_holds
end Go.Proofs.Ytfbjpgcgdhhfnaa
