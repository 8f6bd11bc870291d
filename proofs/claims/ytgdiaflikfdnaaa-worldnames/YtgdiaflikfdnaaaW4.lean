/- The program's world: what is asked of a store, counted: answers that are an error alone, and lists. -/
import Derived.Test.YtgdiaflikfdnaaaW3
import Derived.Laws.ResultCell
namespace Go.Proofs.Ytgdiaflikfdnaaa
open Go.RowKit Go.Maps
variable {w w' w1 w2 : World} {S : Nat → Prop} {b g : Nat} {W W' : Wd}
theorem load82 (w : World) (q : Nat) : (loadVar 62 ⟨q, 0, none⟩).run Try.prog w = .ok (.agg #[]) w := run_loadVar_mid w q 0 62 [] _ (fun j u hu => by simp at hu) Try.underlying62 rfl (by kernel_rfl)
/-- the answer: nothing, and an error -/
theorem ret82 {f : Func} {p u : Tmp} (hr : f.results = #[.cell p 62, .tmp u]) {Q : Ending → World → Prop} {a : Act} {w : World} {q : Nat} {z : Int} (hd : a.defers = []) (hp : a.tmps.getD p undef = .pointer (some ⟨q, 0, none⟩)) (hu : a.tmps.getD u undef = .int .i64 z) (h : Q (.returned (.tuple #[.agg #[], .int .i64 z])) w) : bodyPost Try.prog f Q .ret a w := by
  refine bodyPost_ret (v := .tuple #[.agg #[], .int .i64 z]) ?_ hd h
  rw [results_cell_tmp hr, hp, hu]
  have := load82 w q
  simp [asAddr, this, Result.andThen]
set_option maxHeartbeats 2000000 in
set_option maxRecDepth 20000 in
theorem ask48_any (h : IsWd w S b g W) (hc : W.calls ≤ 1000000) (hl : W.left < 9223372036854775808) (i : Int) (B : Nat) (Q : Ending → World → Prop)
    (h1 : ¬ (0 ≤ i ∧ i < (W.l.length : Int)) → ∀ w1, Below w.heap.size w w1 → Q (.returned (.tuple #[.agg #[], .int .i64 1])) w1)
    (h2 : 0 ≤ i ∧ i < (W.l.length : Int) → (countW W).dark = true → ∀ w1, AfterW w w1 S b g (countW W) → Q (.returned (.tuple #[.agg #[], .int .i64 56])) w1)
    (hf : 0 ≤ i ∧ i < (W.l.length : Int) → (countW W).dark = false → ∀ w1, AfterW w w1 S b g (countW W) → Calls Try.prog 45 #[.pointer (some ⟨g, i.toNat * 2, none⟩), .pointer (some ⟨B, 0, none⟩)] w1 fun e w' => ∃ z : Int, e = .returned (.tuple #[.agg #[], .int .i64 z]) ∧ Q e w') :
    Calls Try.prog 29 #[ptr b, .int .i64 i, .func (.func 45) #[] #[.pointer (some ⟨B, 0, none⟩)]] w Q := by
  have HB := hid (show Below w.heap.size w ((w.alloc (.cells #[] 62)).alloc (.cells #[] 62)) from (boxed w _).trans ((boxed (w.alloc (.cells #[] 62)) _).mono (by simp)))
  have h' := h.below HB.out
  have HA := at_any h' i
  have HC := count_any h' hc hl
  unfold placeV at HA
  by_cases h0 : 0 ≤ i ∧ i < (W.l.length : Int)
  · rw [if_pos h0] at HA
    have HF := hid (hf h0)
    have H2 := hid (h2 h0)
    unfold ptr at *
    clear h h' hf h1 h2 h0 hc hl
    go_enter Try.func29, Try.ntmps29
    go_wp2_with fail
    refine HA.mono ?_
    clear HA
    rintro x w1 ⟨rfl, rfl⟩
    go_wp2_with fail
    refine HC.mono ?_
    clear HC
    rintro x w2 ⟨rfl, ha⟩
    have HA2 := hid (AfterW.front HB.out ha)
    obtain ⟨S2, hi2, _, _⟩ := ha
    obtain ⟨cap, ⟨c0, c1, c2, c3, c4⟩, _, _⟩ := hi2.cells
    clear hi2 c0 c1 c3 c4
    cases hd : (countW W).dark with
    | true =>
      rw [hd] at c2
      have HQ := hid (H2.out hd w2 HA2.out)
      clear hd H2 HF
      go_wp2_with fail
      exact ret82 rfl rfl rfl rfl HQ.out
    | false =>
      rw [hd] at c2
      have HFF := HF.out hd w2 HA2.out
      clear hd HF H2
      go_wp2_with fail
      refine HFF.mono ?_
      clear HFF
      rintro x w3 ⟨z, rfl, hq⟩
      have HQ := hid hq
      clear hq
      go_wp2_with fail
      exact ret82 rfl rfl rfl rfl HQ.out
  · rw [if_neg h0] at HA
    have H1 := hid (h1 h0 _ HB.out)
    clear h h' hf HC h0 h1 h2
    unfold ptr at *
    go_enter Try.func29, Try.ntmps29
    go_wp2_with fail
    refine HA.mono ?_
    clear HA
    rintro x w1 ⟨rfl, rfl⟩
    go_wp2_with fail
    exact ret82 rfl rfl rfl rfl H1.out
end Go.Proofs.Ytgdiaflikfdnaaa
